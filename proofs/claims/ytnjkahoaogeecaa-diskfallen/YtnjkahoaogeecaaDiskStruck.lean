/- Contracts: changes that a fall hinders; the plan; a file goes. -/
import Derived.Test.YtnjkahoaogeecaaDiskHit
import Derived.Test.YtnjkahoaogeecaaDiskAppend
namespace Go.Proofs.Ytnjkahoaogeecaa
open Go.RowKit Go.Dk
theorem change_hit (base K d : Nat) (S : WD) (w : World) (h : DiskAt Try.prog base K d w S) (hbase : base ≤ w.heap.size) (hd : S.a.down = false) (f : Fall) (hh : S.a.hit = some f) (fv : Value) :
    Calls Try.prog 43 #[.pointer (some ⟨d, 0, none⟩), fv] w fun e w' => e = .returned (.int .i64 7) ∧ ∃ T : WD, T.a = ({ S.a with fall := none } : A).crash f.keep f.torn ∧ DiskAt Try.prog base K d w' T ∧ Dsk base w w' := by
  have HS := hide (strike_hit base K d S w h hbase hd f hh)
  clear h hh hd
  go_enter Try.func43, Try.ntmps43
  go_wp2_with (go_at_call 61; refine HS.out.mono ?_; rintro e w1 ⟨rfl, T, hT, hD, hk⟩)
  go_ret
  exact ⟨rfl, T, hT, hD, hk⟩
set_option maxRecDepth 100000 in
set_option maxHeartbeats 1000000 in
theorem put_hit (base K d : Nat) (S : WD) (w : World) (h : DiskAt Try.prog base K d w S) (F : WF) (name s : ByteArray) (hO : OpenAt base K w S F name) (hs : s.size ≤ 100) (whole : Bool) (stay : Value) (hstay : (whole = true ∧ stay = .slice none 0 0) ∨ (whole = false ∧ stay = F.nowV))
    (hh : holdsOf S.a (moreOf F whole s) = true) (f : Fall) (hit : S.a.hit = some f) (hd : S.a.down = false) (hbase : base ≤ w.heap.size) :
    Calls Try.prog 38 #[.pointer (some ⟨d, 0, none⟩), .string name, .pointer (some ⟨F.blk, 0, none⟩), stay, .string s] w fun e w' => e = .returned (.int .i64 7) ∧ ∃ T : WD, T.a = ({ S.a with fall := none } : A).crash f.keep f.torn ∧ DiskAt Try.prog base K d w' T ∧ Dsk base w w' := by
  have hcl : F.cs.length ≤ 1000000 := by rw [hO.file.story.length]; have := hO.small.puts; have := h.lim; omega
  have hbl : F.a.bytes.length ≤ 10000000 := by have := hO.small.bytes; have := h.lim; omega
  have hmore : moreOf F whole s ≤ 1000000000000 := by unfold moreOf; split <;> omega
  have hsf : ∃ a c, stay = .slice a (if whole = true then 0 else F.a.bytes.length : Nat) c := by
    rcases hstay with ⟨rfl, rfl⟩ | ⟨rfl, rfl⟩
    · exact ⟨none, 0, rfl⟩
    · exact hO.file.now.form
  obtain ⟨a0, k0, hsv⟩ := hsf
  have hL : (if whole = true then 0 else F.a.bytes.length : Nat) ≤ 10000000 := by split <;> omega
  obtain ⟨L0, hL0⟩ : ∃ L, (if whole = true then 0 else F.a.bytes.length : Nat) = L := ⟨_, rfl⟩
  rw [hL0] at hsv hL
  subst hsv
  obtain ⟨x0, x1, x2, x3, x4, hb5⟩ := five_at w d F.blk name s (.slice a0 L0 k0)
  obtain ⟨an, kn, hnv⟩ := hO.file.now.form
  have HN : Hid (∀ w', Below (five w d F.blk name s (.slice a0 L0 k0)).heap.size (five w d F.blk name s (.slice a0 L0 k0)) w' → Calls Try.prog 40 #[.pointer (some ⟨F.blk, 0, none⟩)] w' fun e w'' => e = .returned (.slice an F.a.bytes.length kn) ∧ Below w'.heap.size w' w'') := fun w' hb =>
    (now_any base F w' ((hO.below (hb5.trans (hb.mono hb5.size))).file) hcl).mono fun e w'' ⟨e1, e2⟩ => ⟨by rw [e1, hnv], by rw [e2]; exact Below.refl _ _⟩
  have HH : Hid (∀ w', Below (five w d F.blk name s (.slice a0 L0 k0)).heap.size (five w d F.blk name s (.slice a0 L0 k0)) w' → Calls Try.prog 58 #[.pointer (some ⟨d, 0, none⟩), .int .i64 (moreOf F whole s)] w' fun e w'' => e = .returned (.bool true) ∧ Below w'.heap.size w' w'') := fun w' hb =>
    (holds_any base K d S w' (h.below (hb5.trans (hb.mono hb5.size))) _ hmore).mono fun e w'' ⟨e1, e2⟩ => ⟨by rw [e1, hh], e2⟩
  have y0 := cell_regrown (show (five w d F.blk name s (.slice a0 L0 k0)).cell? ⟨w.heap.size, 0, none⟩ = some (.pointer (some ⟨d, 0, none⟩)) by rw [cell_of_row _ _ _ _ _ _ x0]; rfl)
  have y2 := cell_regrown (show (five w d F.blk name s (.slice a0 L0 k0)).cell? ⟨w.heap.size + 2, 0, none⟩ = some (.pointer (some ⟨F.blk, 0, none⟩)) by rw [cell_of_row _ _ _ _ _ _ x2]; rfl)
  have y3 := cell_regrown (show (five w d F.blk name s (.slice a0 L0 k0)).cell? ⟨w.heap.size + 3, 0, none⟩ = some (.slice a0 L0 k0) by rw [cell_of_row _ _ _ _ _ _ x3]; rfl)
  have y4 := cell_regrown (show (five w d F.blk name s (.slice a0 L0 k0)).cell? ⟨w.heap.size + 4, 0, none⟩ = some (.string s) by rw [cell_of_row _ _ _ _ _ _ x4]; rfl)
  have HZ0 : Hid ((five w d F.blk name s (.slice a0 L0 k0)).cell? ⟨w.heap.size, 0, none⟩ = some (.pointer (some ⟨d, 0, none⟩))) := by rw [Hid, cell_of_row _ _ _ _ _ _ x0]; rfl
  unfold moreOf at HH
  obtain ⟨w5, hw5⟩ : ∃ w5, five w d F.blk name s (.slice a0 L0 k0) = w5 := ⟨_, rfl⟩
  rw [hw5] at HN HH y0 y2 y3 y4 hb5 HZ0
  have HW5 := hide hw5
  unfold five at HW5
  rw [hL0] at HH
  obtain ⟨L1, hL1⟩ : ∃ L, F.a.bytes.length = L := ⟨_, rfl⟩
  rw [hL1] at HH HN hbl
  obtain ⟨B, hB⟩ : ∃ B, F.blk = B := ⟨_, rfl⟩
  rw [hB] at HN y2 HW5 ⊢
  have HC : Hid (∀ w6, Below w5.heap.size w5 w6 → Calls Try.prog 43 #[.pointer (some ⟨d, 0, none⟩), .func (.func 59) #[] #[.pointer (some ⟨w.heap.size, 0, none⟩), .pointer (some ⟨w.heap.size + 2, 0, none⟩), .pointer (some ⟨w.heap.size + 3, 0, none⟩), .pointer (some ⟨w.heap.size + 4, 0, none⟩), .pointer (some ⟨w.heap.size + 1, 0, none⟩)]] w6 fun e w' => e = .returned (.int .i64 7) ∧ ∃ T : WD, T.a = ({ S.a with fall := none } : A).crash f.keep f.torn ∧ DiskAt Try.prog base K d w' T ∧ Dsk base w6 w') := fun w6 k6 => by
    have hb6 := hb5.trans (k6.mono hb5.size)
    exact change_hit base K d S w6 (h.below hb6) (Nat.le_trans hbase hb6.size) hd f hit _
  clear h hO hstay hh hit hd hcl hmore hnv x0 x1 x2 x3 x4 hw5 hL0 hL1 hB
  go_enter Try.func38, Try.ntmps38
  go_upto_region 1 with fail
  rw [HW5.out]
  refine QuietCalls.region (by kernel_rfl) (by kernel_rfl) ?_
  iterate 7 (first | go_big_quiet_step (fail) | quiet_step (fail))
  refine QuietCalls.call1 rfl rfl Try.call40 (fun w' hb => HN.out w' (by exact hb)) rfl ?_; simp only [Act.put, List.setIfInBounds_toArray, List.set_cons_succ, List.set_cons_zero]
  iterate 2 (first | go_big_quiet_step (fail) | quiet_step (fail))
  refine QuietCalls.call2 rfl rfl Try.call58 (fun w' hb => HH.out w' (by exact hb)) rfl rfl ?_; simp only [Act.put, List.setIfInBounds_toArray, List.set_cons_succ, List.set_cons_zero]
  iterate 1 (first | go_big_quiet_step (fail) | quiet_step (fail))
  refine wpQuiet_nil ?_
  intro w6 k6
  have z0 : w6.cell? ⟨w.heap.size, 0, none⟩ = some (.pointer (some ⟨d, 0, none⟩)) := (k6.cell (p := ⟨w.heap.size, 0, none⟩) (by rw [← HW5.out]; simp; omega)).trans (HZ0.out)
  go_wp2_with (go_at_call 43; refine (HC.out w6 k6).mono ?_; rintro e w7 ⟨rfl, T, hT, hD, hk⟩)
  go_ret
  exact ⟨rfl, T, hT, hD, Dsk.trans (.of_below (hb5.trans (k6.mono hb5.size))) hk⟩
end Go.Proofs.Ytnjkahoaogeecaa
