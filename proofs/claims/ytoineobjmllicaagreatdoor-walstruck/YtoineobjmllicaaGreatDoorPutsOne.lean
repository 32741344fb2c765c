/- Several texts in one: DiskPuts, DiskAppend. -/
import Derived.Test.YtoineobjmllicaaGreatDoorDkThree
/- Contracts: bytes are put into a file, if there is room. -/
namespace Go.Dk
open Go.RowKit
variable {M : Nat → Prop}
/-- A file that bytes may be put into: of the disk, or a new one. -/
structure OpenAt (base K : Nat) (w : World) (S : WD) (F : WF) (name : ByteArray) : Prop where
  file : FileAt base w F
  nm : F.nm = name.data.toList
  apart : ∀ G ∈ S.fs, G.nm ≠ F.nm → ∀ b, G.foot b → ¬ F.foot b
  small : Small K F.a
theorem OpenAt.below {base K : Nat} {w w' : World} {S : WD} {F : WF} {name : ByteArray} (h : OpenAt base K w S F name) (hb : Below w.heap.size w w') : OpenAt base K w' S F name :=
  ⟨h.file.touch (X := fun _ => False) (.of_below hb) fun _ _ x => x, h.nm, h.apart, h.small⟩
/-- The disk's own state behind a put. -/
def A.puts (a : A) (f : AF) (p : Pt) : A := { a with files := ins AF.name (f.put p) a.files, changes := a.changes + 1 }
end Go.Dk
namespace Go.Proofs.YtoineobjmllicaaGreatDoor
open Go.RowKit Go.Dk
variable {M : Nat → Prop}
/-- What is done by a put, wherever the boxes lie. -/
theorem putfn_any (hM : ∀ b, M b) (base K d : Nat) (S : WD) (w : World) (h : DiskAt Tryz.prog M base K d w S) (hbase : base ≤ w.heap.size) (hl : K + 1 ≤ 5000) (F : WF) (name s : ByteArray) (hO : OpenAt base K w S F name) (hns : name.size ≤ maxLen)
    (hs : s.size ≤ 2000) (whole : Bool) (stay : Value) (hstay : (whole = true ∧ stay = .slice none 0 0) ∨ (whole = false ∧ stay = F.nowV))
    (g0 g1 g2 g3 g4 : Nat) (b0 : w.heap[g0]? = some (.cells #[.pointer (some ⟨d, 0, none⟩)] 23 (0, 0))) (b1 : w.heap[g1]? = some (.cells #[.pointer (some ⟨F.blk, 0, none⟩)] 79 (0, 0))) (b2 : w.heap[g2]? = some (.cells #[stay] 100 (0, 0))) (b3 : w.heap[g3]? = some (.cells #[.string s] 9 (0, 0))) (b4 : w.heap[g4]? = some (.cells #[.string name] 9 (0, 0))) :
    Calls Tryz.prog 88 #[.pointer (some ⟨g0, 0, none⟩), .pointer (some ⟨g1, 0, none⟩), .pointer (some ⟨g2, 0, none⟩), .pointer (some ⟨g3, 0, none⟩), .pointer (some ⟨g4, 0, none⟩)] w fun e w' => e = .returned (.tuple #[]) ∧
      ∃ T : WD, T.counted.a = S.a.puts F.a ⟨s.data.toList, whole⟩ ∧ T.a.changes = S.a.changes ∧ DiskAt Tryz.prog M base (K + 1) d w' T ∧ Dsk M base w w' := by
  have hfin : ∀ (S' : WD) (F' : WF), S'.a = S.a → S'.fs = S.fs → F'.a = F.a.put ⟨s.data.toList, whole⟩ → (S'.put F').counted.a = S.a.puts F.a ⟨s.data.toList, whole⟩ ∧ (S'.put F').a.changes = S.a.changes := by
    intro S' F' e1 e2 e3
    unfold WD.counted WD.put WD.withF A.puts
    simp only
    rw [e1, e2, map_ins (na := WF.nm) (nb := AF.name) WF.a (fun _ => rfl), e3, h.same]
    exact ⟨rfl, rfl⟩
  cases hb : S.mb with
  | none =>
    refine (putfn_none hM base K d S w h hbase hb hl F hO.file name s hO.nm hns hO.apart hO.small hs whole stay hstay g0 g1 g2 g3 g4 b0 b1 b2 b3 b4).mono ?_
    rintro e w' ⟨rfl, F', h1, h2, h3⟩
    obtain ⟨k1, k2⟩ := hfin { S with mb := some w.heap.size } F' rfl rfl h1
    exact ⟨rfl, _, k1, k2, h2, h3⟩
  | some b =>
    refine (putfn_map base K d b S w h hbase hb hl F hO.file name s hO.nm hns hO.apart hO.small hs whole stay hstay g0 g1 g2 g3 g4 b0 b1 b2 b3 b4).mono ?_
    rintro e w' ⟨rfl, F', h1, h2, h3⟩
    obtain ⟨k1, k2⟩ := hfin S F' rfl rfl h1
    exact ⟨rfl, _, k1, k2, h2, h3⟩
/-- Five boxes. -/
def five (w : World) (d B : Nat) (name s : ByteArray) (stay : Value) : World := ((((w.alloc (.cells #[.pointer (some ⟨d, 0, none⟩)] 23)).alloc (.cells #[.string name] 9)).alloc (.cells #[.pointer (some ⟨B, 0, none⟩)] 79)).alloc (.cells #[stay] 100)).alloc (.cells #[.string s] 9)
theorem five_at (w : World) (d B : Nat) (name s : ByteArray) (stay : Value) :
    (five w d B name s stay).heap[w.heap.size]? = some (.cells #[.pointer (some ⟨d, 0, none⟩)] 23 (0, 0)) ∧ (five w d B name s stay).heap[w.heap.size + 1]? = some (.cells #[.string name] 9 (0, 0)) ∧ (five w d B name s stay).heap[w.heap.size + 2]? = some (.cells #[.pointer (some ⟨B, 0, none⟩)] 79 (0, 0)) ∧
      (five w d B name s stay).heap[w.heap.size + 3]? = some (.cells #[stay] 100 (0, 0)) ∧ (five w d B name s stay).heap[w.heap.size + 4]? = some (.cells #[.string s] 9 (0, 0)) ∧ Below w.heap.size w (five w d B name s stay) := by
  refine ⟨?_, ?_, ?_, ?_, ?_, ?_⟩
  · unfold five
    rw [heap_alloc_old _ _ (by simp <;> omega), heap_alloc_old _ _ (by simp <;> omega), heap_alloc_old _ _ (by simp <;> omega), heap_alloc_old _ _ (by simp)]
    exact heap_alloc_new _ _
  · unfold five
    rw [heap_alloc_old _ _ (by simp <;> omega), heap_alloc_old _ _ (by simp <;> omega), heap_alloc_old _ _ (by simp)]
    have := heap_alloc_new (w.alloc (.cells #[.pointer (some ⟨d, 0, none⟩)] 23)) (.cells #[.string name] 9)
    simpa using this
  · unfold five
    rw [heap_alloc_old _ _ (by simp <;> omega), heap_alloc_old _ _ (by simp)]
    have := heap_alloc_new ((w.alloc (.cells #[.pointer (some ⟨d, 0, none⟩)] 23)).alloc (.cells #[.string name] 9)) (.cells #[.pointer (some ⟨B, 0, none⟩)] 79)
    simpa using this
  · unfold five
    rw [heap_alloc_old _ _ (by simp)]
    have := heap_alloc_new (((w.alloc (.cells #[.pointer (some ⟨d, 0, none⟩)] 23)).alloc (.cells #[.string name] 9)).alloc (.cells #[.pointer (some ⟨B, 0, none⟩)] 79)) (.cells #[stay] 100)
    simpa using this
  · have := heap_alloc_new ((((w.alloc (.cells #[.pointer (some ⟨d, 0, none⟩)] 23)).alloc (.cells #[.string name] 9)).alloc (.cells #[.pointer (some ⟨B, 0, none⟩)] 79)).alloc (.cells #[stay] 100)) (.cells #[.string s] 9)
    simpa [five] using this
  · exact (((((Below.refl _ w).alloc (Nat.le_refl _) _).alloc (by simp) _).alloc (by simp; omega) _).alloc (by simp; omega) _).alloc (by simp; omega) _
/-- How many bytes more there would be. -/
def moreOf (F : WF) (whole : Bool) (s : ByteArray) : Int := (((if whole = true then 0 else F.a.bytes.length : Nat) : Int) + (s.size : Int)) - (F.a.bytes.length : Int)
set_option maxRecDepth 5000 in
set_option maxHeartbeats 1000000 in
theorem put_full (base K d : Nat) (S : WD) (w : World) (h : DiskAt Tryz.prog M base K d w S) (F : WF) (name s : ByteArray) (hO : OpenAt base K w S F name) (hs : s.size ≤ 2000) (whole : Bool) (stay : Value) (hstay : (whole = true ∧ stay = .slice none 0 0) ∨ (whole = false ∧ stay = F.nowV))
    (hh : holdsOf S.a (moreOf F whole s) = false) :
    Calls Tryz.prog 59 #[.pointer (some ⟨d, 0, none⟩), .string name, .pointer (some ⟨F.blk, 0, none⟩), stay, .string s] w fun e w' => e = .returned (.int .i64 61) ∧ Below w.heap.size w w' := by
  have hcl : F.cs.length ≤ 1000000 := by rw [hO.file.story.length]; have := hO.small.puts; have := h.lim; omega
  have hbl : F.a.bytes.length ≤ 10000000 := by have := hO.small.bytes; have := h.lim; omega
  have hmore : moreOf F whole s ≤ 1000000000000 := by unfold moreOf; split <;> omega
  have hsf : ∃ a c, stay = .slice a (if whole = true then 0 else F.a.bytes.length : Nat) c := by
    rcases hstay with ⟨rfl, rfl⟩ | ⟨rfl, rfl⟩
    · exact ⟨none, 0, rfl⟩
    · exact hO.file.now.form
  obtain ⟨a0, k0, hsv⟩ := hsf
  have hL : (if whole = true then 0 else F.a.bytes.length : Nat) ≤ 10000000 := by split <;> omega
  obtain ⟨L0, hL0⟩ : ∃ L, (if whole = true then 0 else F.a.bytes.length : Nat) = L := ⟨_, rfl⟩
  rw [hL0] at hsv hL
  subst hsv
  obtain ⟨x0, x1, x2, x3, x4, hb5⟩ := five_at w d F.blk name s (.slice a0 L0 k0)
  obtain ⟨an, kn, hnv⟩ := hO.file.now.form
  have HN : Hid (∀ w', Below (five w d F.blk name s (.slice a0 L0 k0)).heap.size (five w d F.blk name s (.slice a0 L0 k0)) w' → Calls Tryz.prog 63 #[.pointer (some ⟨F.blk, 0, none⟩)] w' fun e w'' => e = .returned (.slice an F.a.bytes.length kn) ∧ Below w'.heap.size w' w'') := fun w' hb =>
    (now_any base F w' ((hO.below (hb5.trans (hb.mono hb5.size))).file) hcl).mono fun e w'' ⟨e1, e2⟩ => ⟨by rw [e1, hnv], by rw [e2]; exact Below.refl _ _⟩
  have HH : Hid (∀ w', Below (five w d F.blk name s (.slice a0 L0 k0)).heap.size (five w d F.blk name s (.slice a0 L0 k0)) w' → Calls Tryz.prog 86 #[.pointer (some ⟨d, 0, none⟩), .int .i64 (moreOf F whole s)] w' fun e w'' => e = .returned (.bool false) ∧ Below w'.heap.size w' w'') := fun w' hb =>
    (holds_any base K d S w' (h.below (hb5.trans (hb.mono hb5.size))) _ hmore).mono fun e w'' ⟨e1, e2⟩ => ⟨by rw [e1, hh], e2⟩
  have y0 := cell_regrown (show (five w d F.blk name s (.slice a0 L0 k0)).cell? ⟨w.heap.size, 0, none⟩ = some (.pointer (some ⟨d, 0, none⟩)) by rw [cell_of_row _ _ _ _ _ _ x0]; rfl)
  have y2 := cell_regrown (show (five w d F.blk name s (.slice a0 L0 k0)).cell? ⟨w.heap.size + 2, 0, none⟩ = some (.pointer (some ⟨F.blk, 0, none⟩)) by rw [cell_of_row _ _ _ _ _ _ x2]; rfl)
  have y3 := cell_regrown (show (five w d F.blk name s (.slice a0 L0 k0)).cell? ⟨w.heap.size + 3, 0, none⟩ = some (.slice a0 L0 k0) by rw [cell_of_row _ _ _ _ _ _ x3]; rfl)
  have y4 := cell_regrown (show (five w d F.blk name s (.slice a0 L0 k0)).cell? ⟨w.heap.size + 4, 0, none⟩ = some (.string s) by rw [cell_of_row _ _ _ _ _ _ x4]; rfl)
  unfold moreOf at HH
  obtain ⟨w5, hw5⟩ : ∃ w5, five w d F.blk name s (.slice a0 L0 k0) = w5 := ⟨_, rfl⟩
  rw [hw5] at HN HH y0 y2 y3 y4 hb5
  have HW5 := hide hw5
  unfold five at HW5
  rw [hL0] at HH
  obtain ⟨L1, hL1⟩ : ∃ L, F.a.bytes.length = L := ⟨_, rfl⟩
  rw [hL1] at HH HN hbl
  obtain ⟨B, hB⟩ : ∃ B, F.blk = B := ⟨_, rfl⟩
  rw [hB] at HN y2 HW5 ⊢
  clear h hO hstay hh hcl hmore hnv x0 x1 x2 x3 x4 hw5 hL0 hL1 hB
  go_enter Tryz.func59, Tryz.ntmps59
  go_upto_region 1 with fail
  rw [HW5.out]
  refine QuietCalls.region (by kernel_rfl) (by kernel_rfl) ?_
  iterate 7 (first | go_big_quiet_step (fail) | quiet_step (fail))
  refine QuietCalls.call1 rfl rfl Tryz.call63 (fun w' hb => HN.out w' (by exact hb)) rfl ?_; simp only [Act.put, List.setIfInBounds_toArray, List.set_cons_succ, List.set_cons_zero]
  iterate 2 (first | go_big_quiet_step (fail) | quiet_step (fail))
  refine QuietCalls.call2 rfl rfl Tryz.call86 (fun w' hb => HH.out w' (by exact hb)) rfl rfl ?_; simp only [Act.put, List.setIfInBounds_toArray, List.set_cons_succ, List.set_cons_zero]
  iterate 1 (first | go_big_quiet_step (fail) | quiet_step (fail))
  refine wpQuiet_nil ?_
  intro w6 k6
  go_wp2
  go_ret
  exact ⟨rfl, hb5.trans (k6.mono hb5.size)⟩
set_option maxRecDepth 5000 in
set_option maxHeartbeats 1000000 in
theorem put_calm (hM : ∀ b, M b) (base K d : Nat) (S : WD) (w : World) (h : DiskAt Tryz.prog M base K d w S) (F : WF) (name s : ByteArray) (hO : OpenAt base K w S F name) (hs : s.size ≤ 2000) (whole : Bool) (stay : Value) (hstay : (whole = true ∧ stay = .slice none 0 0) ∨ (whole = false ∧ stay = F.nowV))
    (hh : holdsOf S.a (moreOf F whole s) = true) (hit : S.a.hit = none) (hbase : base ≤ w.heap.size) (hlK : K + 1 ≤ 5000) (hns : name.size ≤ maxLen) :
    Calls Tryz.prog 59 #[.pointer (some ⟨d, 0, none⟩), .string name, .pointer (some ⟨F.blk, 0, none⟩), stay, .string s] w fun e w' => e = .returned (.int .i64 0) ∧ ∃ T : WD, T.a = S.a.puts F.a ⟨s.data.toList, whole⟩ ∧ DiskAt Tryz.prog M base (K + 1) d w' T ∧ Dsk M base w w' := by
  have hcl : F.cs.length ≤ 1000000 := by rw [hO.file.story.length]; have := hO.small.puts; have := h.lim; omega
  have hbl : F.a.bytes.length ≤ 10000000 := by have := hO.small.bytes; have := h.lim; omega
  have hmore : moreOf F whole s ≤ 1000000000000 := by unfold moreOf; split <;> omega
  have hsf : ∃ a c, stay = .slice a (if whole = true then 0 else F.a.bytes.length : Nat) c := by
    rcases hstay with ⟨rfl, rfl⟩ | ⟨rfl, rfl⟩
    · exact ⟨none, 0, rfl⟩
    · exact hO.file.now.form
  obtain ⟨a0, k0, hsv⟩ := hsf
  have hL : (if whole = true then 0 else F.a.bytes.length : Nat) ≤ 10000000 := by split <;> omega
  obtain ⟨L0, hL0⟩ : ∃ L, (if whole = true then 0 else F.a.bytes.length : Nat) = L := ⟨_, rfl⟩
  rw [hL0] at hsv hL
  subst hsv
  obtain ⟨x0, x1, x2, x3, x4, hb5⟩ := five_at w d F.blk name s (.slice a0 L0 k0)
  obtain ⟨an, kn, hnv⟩ := hO.file.now.form
  have HN : Hid (∀ w', Below (five w d F.blk name s (.slice a0 L0 k0)).heap.size (five w d F.blk name s (.slice a0 L0 k0)) w' → Calls Tryz.prog 63 #[.pointer (some ⟨F.blk, 0, none⟩)] w' fun e w'' => e = .returned (.slice an F.a.bytes.length kn) ∧ Below w'.heap.size w' w'') := fun w' hb =>
    (now_any base F w' ((hO.below (hb5.trans (hb.mono hb5.size))).file) hcl).mono fun e w'' ⟨e1, e2⟩ => ⟨by rw [e1, hnv], by rw [e2]; exact Below.refl _ _⟩
  have HH : Hid (∀ w', Below (five w d F.blk name s (.slice a0 L0 k0)).heap.size (five w d F.blk name s (.slice a0 L0 k0)) w' → Calls Tryz.prog 86 #[.pointer (some ⟨d, 0, none⟩), .int .i64 (moreOf F whole s)] w' fun e w'' => e = .returned (.bool true) ∧ Below w'.heap.size w' w'') := fun w' hb =>
    (holds_any base K d S w' (h.below (hb5.trans (hb.mono hb5.size))) _ hmore).mono fun e w'' ⟨e1, e2⟩ => ⟨by rw [e1, hh], e2⟩
  have y0 := cell_regrown (show (five w d F.blk name s (.slice a0 L0 k0)).cell? ⟨w.heap.size, 0, none⟩ = some (.pointer (some ⟨d, 0, none⟩)) by rw [cell_of_row _ _ _ _ _ _ x0]; rfl)
  have y2 := cell_regrown (show (five w d F.blk name s (.slice a0 L0 k0)).cell? ⟨w.heap.size + 2, 0, none⟩ = some (.pointer (some ⟨F.blk, 0, none⟩)) by rw [cell_of_row _ _ _ _ _ _ x2]; rfl)
  have y3 := cell_regrown (show (five w d F.blk name s (.slice a0 L0 k0)).cell? ⟨w.heap.size + 3, 0, none⟩ = some (.slice a0 L0 k0) by rw [cell_of_row _ _ _ _ _ _ x3]; rfl)
  have y4 := cell_regrown (show (five w d F.blk name s (.slice a0 L0 k0)).cell? ⟨w.heap.size + 4, 0, none⟩ = some (.string s) by rw [cell_of_row _ _ _ _ _ _ x4]; rfl)
  have HZ0 : Hid ((five w d F.blk name s (.slice a0 L0 k0)).cell? ⟨w.heap.size, 0, none⟩ = some (.pointer (some ⟨d, 0, none⟩))) := by rw [Hid, cell_of_row _ _ _ _ _ _ x0]; rfl
  unfold moreOf at HH
  obtain ⟨w5, hw5⟩ : ∃ w5, five w d F.blk name s (.slice a0 L0 k0) = w5 := ⟨_, rfl⟩
  rw [hw5] at HN HH y0 y2 y3 y4 hb5 HZ0
  have HW5 := hide hw5
  unfold five at HW5
  rw [hL0] at HH
  obtain ⟨L1, hL1⟩ : ∃ L, F.a.bytes.length = L := ⟨_, rfl⟩
  rw [hL1] at HH HN hbl
  obtain ⟨B, hB⟩ : ∃ B, F.blk = B := ⟨_, rfl⟩
  rw [hB] at HN y2 HW5 ⊢
  have HC : Hid (∀ w6, Below w5.heap.size w5 w6 → Calls Tryz.prog 87 #[.pointer (some ⟨d, 0, none⟩), .func (.func 88) #[] #[.pointer (some ⟨w.heap.size, 0, none⟩), .pointer (some ⟨w.heap.size + 2, 0, none⟩), .pointer (some ⟨w.heap.size + 3, 0, none⟩), .pointer (some ⟨w.heap.size + 4, 0, none⟩), .pointer (some ⟨w.heap.size + 1, 0, none⟩)]] w6 fun e w' => e = .returned (.int .i64 0) ∧ ∃ T : WD, T.counted.a = S.a.puts F.a ⟨s.data.toList, whole⟩ ∧ DiskAt Tryz.prog M base (K + 1) d w' T.counted ∧ Dsk M base w6 w') := fun w6 k6 => by
    have hb6 := hb5.trans (k6.mono hb5.size)
    rw [hw5] at x0 x1 x2 x3 x4
    have h6 := h.below hb6
    refine change_calm base K (K + 1) d S w6 h6 hit _ _ (fun T => T.counted.a = S.a.puts F.a ⟨s.data.toList, whole⟩) (Nat.succ_le_succ h.chg) hlK (enters_of Tryz.func88 (by kernel_rfl) rfl) fun w7 k7 => ?_
    have hb7 := k6.trans (k7.mono k6.size)
    have at7 : ∀ {g : Nat} {o : Obj}, w5.heap[g]? = some o → w7.heap[g]? = some o := fun {g o} hg => (hb7.block g (block_lt hg)).trans hg
    exact putfn_any hM base K d S w7 (h6.below k7) (Nat.le_trans hbase (Nat.le_trans hb6.size k7.size)) hlK F name s ((hO.below hb6).below k7) hns hs whole _ hstay _ _ _ _ _ (at7 x0) (at7 x2) (at7 x3) (at7 x4) (at7 x1)
  clear h hO hstay hh hit hcl hmore hnv x0 x1 x2 x3 x4 hw5 hL0 hL1 hB
  go_enter Tryz.func59, Tryz.ntmps59
  go_upto_region 1 with fail
  rw [HW5.out]
  refine QuietCalls.region (by kernel_rfl) (by kernel_rfl) ?_
  iterate 7 (first | go_big_quiet_step (fail) | quiet_step (fail))
  refine QuietCalls.call1 rfl rfl Tryz.call63 (fun w' hb => HN.out w' (by exact hb)) rfl ?_; simp only [Act.put, List.setIfInBounds_toArray, List.set_cons_succ, List.set_cons_zero]
  iterate 2 (first | go_big_quiet_step (fail) | quiet_step (fail))
  refine QuietCalls.call2 rfl rfl Tryz.call86 (fun w' hb => HH.out w' (by exact hb)) rfl rfl ?_; simp only [Act.put, List.setIfInBounds_toArray, List.set_cons_succ, List.set_cons_zero]
  iterate 1 (first | go_big_quiet_step (fail) | quiet_step (fail))
  refine wpQuiet_nil ?_
  intro w6 k6
  have z0 : w6.cell? ⟨w.heap.size, 0, none⟩ = some (.pointer (some ⟨d, 0, none⟩)) := (k6.cell (p := ⟨w.heap.size, 0, none⟩) (by rw [← HW5.out]; simp; omega)).trans (HZ0.out)
  go_wp2_with (go_at_call 87; refine (HC.out w6 k6).mono ?_; rintro e w7 ⟨rfl, T, hT, hD, hk⟩)
  go_ret
  exact ⟨rfl, T.counted, hT, hD, Dsk.trans (.of_below (hb5.trans (k6.mono hb5.size))) hk⟩
end Go.Proofs.YtoineobjmllicaaGreatDoor
/- Contracts of Append and Write. -/
namespace Go.Dk
open Go.RowKit
variable {M : Nat → Prop}
/-- The file that has a name, or one that is not there yet. -/
def A.fileOf (a : A) (name : Bs) : AF := (seek AF.name name a.files).getD ⟨name, [], false, []⟩
theorem DiskAt.seek {P : Program} {base K d : Nat} {w : World} {S : WD} (h : DiskAt P M base K d w S) (name : Bs) : (seek WF.nm name S.fs).map WF.a = seek AF.name name S.a.files := by
  rw [← h.same]
  exact map_seek (na := WF.nm) (nb := AF.name) WF.a (fun _ => rfl) name S.fs
end Go.Dk
namespace Go.Proofs.YtoineobjmllicaaGreatDoor
open Go.RowKit Go.Dk
variable {M : Nat → Prop}
theorem open_any (base K d : Nat) (S : WD) (name : ByteArray) (w : World) (h : DiskAt Tryz.prog M base K d w S) (hbase : base ≤ w.heap.size) (hs : name.size ≤ maxLen) (hn : nameOk name.data.toList = true) :
    Calls Tryz.prog 60 #[.pointer (some ⟨d, 0, none⟩), .string name] w fun e w' => ∃ F : WF, e = .returned (.pointer (some ⟨F.blk, 0, none⟩)) ∧ OpenAt base K w' S F name ∧ F.a = S.a.fileOf name.data.toList ∧ Below w.heap.size w w' := by
  have hsk := h.seek name.data.toList
  cases hf : seek WF.nm name.data.toList S.fs with
  | none =>
    rw [hf] at hsk
    refine (open_none base K d S name w h hs hf).mono ?_
    rintro e w' ⟨rfl, hr, hb, -⟩
    refine ⟨⟨⟨name.data.toList, [], false, []⟩, w.heap.size, .slice none 0 0, .slice none 0 0, []⟩, rfl, ⟨FileAt.fresh _ hbase hr, rfl, fun G hG _ b hb' hx => ?_, ⟨Nat.zero_le _, fun i => by simp [AF.after], hn⟩⟩, ?_, hb⟩
    · have hlt := (h.files.files G hG).foot_lt hb'
      rcases hx with e | e | ⟨q, hq, e⟩
      · exact absurd hlt (by rw [show b = w.heap.size from e]; exact Nat.lt_irrefl _)
      · cases e
      · simp only [WF.alls, List.map_nil, List.mem_singleton] at hq
        subst hq
        cases e
    · unfold A.fileOf
      rw [← hsk]
      rfl
  | some F =>
    rw [hf] at hsk
    obtain ⟨hm, hnm⟩ := seek_some hf
    refine (open_some base K d S name F w h hs hf).mono ?_
    rintro e w' ⟨rfl, rfl⟩
    refine ⟨F, rfl, ⟨h.files.files F hm, hnm, fun G hG hne => h.files.apart G hG F hm hne, h.small F hm⟩, ?_, Below.refl _ _⟩
    unfold A.fileOf
    rw [← hsk]
    rfl
theorem able_ok {a : A} {s : Bs} (h : ableOf a s = 0) : a.down = false ∧ nameOk s = true := by
  unfold ableOf at h
  cases hd : a.down with
  | true => rw [hd] at h; simp at h
  | false =>
    rw [hd] at h
    cases hn : nameOk s with
    | true => exact ⟨rfl, rfl⟩
    | false => rw [hn] at h; simp at h
theorem append_err (base K d : Nat) (S : WD) (name s : ByteArray) (r : Int) (w : World) (h : DiskAt Tryz.prog M base K d w S) (hs : name.size ≤ maxLen) (hr : ableOf S.a name.data.toList = r) (h0 : r ≠ 0) :
    Calls Tryz.prog 50 #[.pointer (some ⟨d, 0, none⟩), .string name, .string s] w fun e w' => e = .returned (.int .i64 r) ∧ w' = w := by
  have HA := hide (able_any base K d S name r w h hs hr)
  clear h hs hr
  have hne : (r != 0) = true := by simpa using h0
  go_enter Tryz.func50, Tryz.ntmps50
  go_wp2_with (go_at_call 58; refine HA.out.mono ?_; rintro e w' ⟨rfl, rfl⟩)
  go_ret
  exact ⟨rfl, rfl⟩
theorem append_nil (name s : ByteArray) (w : World) : Calls Tryz.prog 50 #[.pointer none, .string name, .string s] w fun e w' => e = .returned (.int .i64 7) ∧ w' = w := by
  go_enter Tryz.func50, Tryz.ntmps50
  go_wp2_with (go_at_call 58; refine (able_nil name _).mono ?_; rintro e w' ⟨rfl, rfl⟩)
  go_ret
  exact ⟨rfl, rfl⟩
theorem append_put (base K d : Nat) (S : WD) (name s : ByteArray) (w : World) (h : DiskAt Tryz.prog M base K d w S) (hbase : base ≤ w.heap.size) (hs : name.size ≤ maxLen) (ha : ableOf S.a name.data.toList = 0) (r : Int) (R : World → Prop)
    (hput : ∀ (F : WF) w1, OpenAt base K w1 S F name → F.a = S.a.fileOf name.data.toList → Below w.heap.size w w1 → Calls Tryz.prog 59 #[.pointer (some ⟨d, 0, none⟩), .string name, .pointer (some ⟨F.blk, 0, none⟩), F.nowV, .string s] w1 fun e w' => e = .returned (.int .i64 r) ∧ R w') :
    Calls Tryz.prog 50 #[.pointer (some ⟨d, 0, none⟩), .string name, .string s] w fun e w' => e = .returned (.int .i64 r) ∧ R w' := by
  have HA := hide (able_any base K d S name 0 w h hs ha)
  have HO := hide (open_any base K d S name w h hbase hs (able_ok ha).2)
  have HP := hide hput
  have hlim := h.lim
  clear h hput
  go_enter Tryz.func50, Tryz.ntmps50
  go_wp2_with (first
    | (go_at_call 58; refine HA.out.mono ?_; rintro e w' ⟨rfl, rfl⟩)
    | (go_at_call 60; refine HO.out.mono ?_; rintro e w1 ⟨F, rfl, hO, hFa, hb⟩)
    | (go_at_call 63; refine (now_any base F w1 hO.file (by rw [hO.file.story.length]; have := hO.small.puts; omega)).mono ?_; rintro e w2 ⟨rfl, rfl⟩)
    | (go_at_call 59; refine (HP.out F _ hO hFa (by exact hb)).mono ?_; rintro e w3 ⟨rfl, hR⟩))
  go_ret
  exact ⟨rfl, hR⟩
theorem write_err (base K d : Nat) (S : WD) (name s : ByteArray) (r : Int) (w : World) (h : DiskAt Tryz.prog M base K d w S) (hs : name.size ≤ maxLen) (hr : ableOf S.a name.data.toList = r) (h0 : r ≠ 0) :
    Calls Tryz.prog 31 #[.pointer (some ⟨d, 0, none⟩), .string name, .string s] w fun e w' => e = .returned (.int .i64 r) ∧ w' = w := by
  have HA := hide (able_any base K d S name r w h hs hr)
  clear h hs hr
  have hne : (r != 0) = true := by simpa using h0
  go_enter Tryz.func31, Tryz.ntmps31
  go_wp2_with (go_at_call 58; refine HA.out.mono ?_; rintro e w' ⟨rfl, rfl⟩)
  go_ret
  exact ⟨rfl, rfl⟩
theorem write_nil (name s : ByteArray) (w : World) : Calls Tryz.prog 31 #[.pointer none, .string name, .string s] w fun e w' => e = .returned (.int .i64 7) ∧ w' = w := by
  go_enter Tryz.func31, Tryz.ntmps31
  go_wp2_with (go_at_call 58; refine (able_nil name _).mono ?_; rintro e w' ⟨rfl, rfl⟩)
  go_ret
  exact ⟨rfl, rfl⟩
theorem write_put (base K d : Nat) (S : WD) (name s : ByteArray) (w : World) (h : DiskAt Tryz.prog M base K d w S) (hbase : base ≤ w.heap.size) (hs : name.size ≤ maxLen) (ha : ableOf S.a name.data.toList = 0) (r : Int) (R : World → Prop)
    (hput : ∀ (F : WF) w1, OpenAt base K w1 S F name → F.a = S.a.fileOf name.data.toList → Below w.heap.size w w1 → Calls Tryz.prog 59 #[.pointer (some ⟨d, 0, none⟩), .string name, .pointer (some ⟨F.blk, 0, none⟩), .slice none 0 0, .string s] w1 fun e w' => e = .returned (.int .i64 r) ∧ R w') :
    Calls Tryz.prog 31 #[.pointer (some ⟨d, 0, none⟩), .string name, .string s] w fun e w' => e = .returned (.int .i64 r) ∧ R w' := by
  have HA := hide (able_any base K d S name 0 w h hs ha)
  have HO := hide (open_any base K d S name w h hbase hs (able_ok ha).2)
  have HP := hide hput
  clear h hput
  go_enter Tryz.func31, Tryz.ntmps31
  go_wp2_with (first
    | (go_at_call 58; refine HA.out.mono ?_; rintro e w' ⟨rfl, rfl⟩)
    | (go_at_call 60; refine HO.out.mono ?_; rintro e w1 ⟨F, rfl, hO, hFa, hb⟩)
    | (go_at_call 59; refine (HP.out F _ hO hFa (by exact hb)).mono ?_; rintro e w3 ⟨rfl, hR⟩))
  go_ret
  exact ⟨rfl, hR⟩
end Go.Proofs.YtoineobjmllicaaGreatDoor
