/- Several texts in one: DiskStruck, DiskRemove. -/
import Derived.Test.YtoineobjmllicaaGreatDoorHitOne
import Derived.Test.YtoineobjmllicaaGreatDoorPutsOne
/- Contracts: changes that a fall hinders; the plan; a file goes. -/
namespace Go.Proofs.YtoineobjmllicaaGreatDoor
open Go.RowKit Go.Dk
variable {M : Nat → Prop}
theorem change_hit (base K d : Nat) (S : WD) (w : World) (h : DiskAt Tryz.prog M base K d w S) (hbase : base ≤ w.heap.size) (hd : S.a.down = false) (f : Fall) (hh : S.a.hit = some f) (fv : Value) :
    Calls Tryz.prog 87 #[.pointer (some ⟨d, 0, none⟩), fv] w fun e w' => e = .returned (.int .i64 7) ∧ ∃ T : WD, T.a = ({ S.a with fall := none } : A).crash f.keep f.torn ∧ DiskAt Tryz.prog M base K d w' T ∧ Dsk M base w w' := by
  have HS := hide (strike_hit base K d S w h hbase hd f hh)
  clear h hh hd
  go_enter Tryz.func87, Tryz.ntmps87
  go_wp2_with (go_at_call 106; refine HS.out.mono ?_; rintro e w1 ⟨rfl, T, hT, hD, hk⟩)
  go_ret
  exact ⟨rfl, T, hT, hD, hk⟩
set_option maxRecDepth 5000 in
set_option maxHeartbeats 1000000 in
theorem put_hit (base K d : Nat) (S : WD) (w : World) (h : DiskAt Tryz.prog M base K d w S) (F : WF) (name s : ByteArray) (hO : OpenAt base K w S F name) (hs : s.size ≤ 2000) (whole : Bool) (stay : Value) (hstay : (whole = true ∧ stay = .slice none 0 0) ∨ (whole = false ∧ stay = F.nowV))
    (hh : holdsOf S.a (moreOf F whole s) = true) (f : Fall) (hit : S.a.hit = some f) (hd : S.a.down = false) (hbase : base ≤ w.heap.size) :
    Calls Tryz.prog 59 #[.pointer (some ⟨d, 0, none⟩), .string name, .pointer (some ⟨F.blk, 0, none⟩), stay, .string s] w fun e w' => e = .returned (.int .i64 7) ∧ ∃ T : WD, T.a = ({ S.a with fall := none } : A).crash f.keep f.torn ∧ DiskAt Tryz.prog M base K d w' T ∧ Dsk M base w w' := by
  have hcl : F.cs.length ≤ 1000000 := by rw [hO.file.story.length]; have := hO.small.puts; have := h.lim; omega
  have hbl : F.a.bytes.length ≤ 10000000 := by have := hO.small.bytes; have := h.lim; omega
  have hmore : moreOf F whole s ≤ 1000000000000 := by unfold moreOf; split <;> omega
  have hsf : ∃ a c, stay = .slice a (if whole = true then 0 else F.a.bytes.length : Nat) c := by
    rcases hstay with ⟨rfl, rfl⟩ | ⟨rfl, rfl⟩
    · exact ⟨none, 0, rfl⟩
    · exact hO.file.now.form
  obtain ⟨a0, k0, hsv⟩ := hsf
  have hL : (if whole = true then 0 else F.a.bytes.length : Nat) ≤ 10000000 := by split <;> omega
  obtain ⟨L0, hL0⟩ : ∃ L, (if whole = true then 0 else F.a.bytes.length : Nat) = L := ⟨_, rfl⟩
  rw [hL0] at hsv hL
  subst hsv
  obtain ⟨x0, x1, x2, x3, x4, hb5⟩ := five_at w d F.blk name s (.slice a0 L0 k0)
  obtain ⟨an, kn, hnv⟩ := hO.file.now.form
  have HN : Hid (∀ w', Below (five w d F.blk name s (.slice a0 L0 k0)).heap.size (five w d F.blk name s (.slice a0 L0 k0)) w' → Calls Tryz.prog 63 #[.pointer (some ⟨F.blk, 0, none⟩)] w' fun e w'' => e = .returned (.slice an F.a.bytes.length kn) ∧ Below w'.heap.size w' w'') := fun w' hb =>
    (now_any base F w' ((hO.below (hb5.trans (hb.mono hb5.size))).file) hcl).mono fun e w'' ⟨e1, e2⟩ => ⟨by rw [e1, hnv], by rw [e2]; exact Below.refl _ _⟩
  have HH : Hid (∀ w', Below (five w d F.blk name s (.slice a0 L0 k0)).heap.size (five w d F.blk name s (.slice a0 L0 k0)) w' → Calls Tryz.prog 86 #[.pointer (some ⟨d, 0, none⟩), .int .i64 (moreOf F whole s)] w' fun e w'' => e = .returned (.bool true) ∧ Below w'.heap.size w' w'') := fun w' hb =>
    (holds_any base K d S w' (h.below (hb5.trans (hb.mono hb5.size))) _ hmore).mono fun e w'' ⟨e1, e2⟩ => ⟨by rw [e1, hh], e2⟩
  have y0 := cell_regrown (show (five w d F.blk name s (.slice a0 L0 k0)).cell? ⟨w.heap.size, 0, none⟩ = some (.pointer (some ⟨d, 0, none⟩)) by rw [cell_of_row _ _ _ _ _ _ x0]; rfl)
  have y2 := cell_regrown (show (five w d F.blk name s (.slice a0 L0 k0)).cell? ⟨w.heap.size + 2, 0, none⟩ = some (.pointer (some ⟨F.blk, 0, none⟩)) by rw [cell_of_row _ _ _ _ _ _ x2]; rfl)
  have y3 := cell_regrown (show (five w d F.blk name s (.slice a0 L0 k0)).cell? ⟨w.heap.size + 3, 0, none⟩ = some (.slice a0 L0 k0) by rw [cell_of_row _ _ _ _ _ _ x3]; rfl)
  have y4 := cell_regrown (show (five w d F.blk name s (.slice a0 L0 k0)).cell? ⟨w.heap.size + 4, 0, none⟩ = some (.string s) by rw [cell_of_row _ _ _ _ _ _ x4]; rfl)
  have HZ0 : Hid ((five w d F.blk name s (.slice a0 L0 k0)).cell? ⟨w.heap.size, 0, none⟩ = some (.pointer (some ⟨d, 0, none⟩))) := by rw [Hid, cell_of_row _ _ _ _ _ _ x0]; rfl
  unfold moreOf at HH
  obtain ⟨w5, hw5⟩ : ∃ w5, five w d F.blk name s (.slice a0 L0 k0) = w5 := ⟨_, rfl⟩
  rw [hw5] at HN HH y0 y2 y3 y4 hb5 HZ0
  have HW5 := hide hw5
  unfold five at HW5
  rw [hL0] at HH
  obtain ⟨L1, hL1⟩ : ∃ L, F.a.bytes.length = L := ⟨_, rfl⟩
  rw [hL1] at HH HN hbl
  obtain ⟨B, hB⟩ : ∃ B, F.blk = B := ⟨_, rfl⟩
  rw [hB] at HN y2 HW5 ⊢
  have HC : Hid (∀ w6, Below w5.heap.size w5 w6 → Calls Tryz.prog 87 #[.pointer (some ⟨d, 0, none⟩), .func (.func 88) #[] #[.pointer (some ⟨w.heap.size, 0, none⟩), .pointer (some ⟨w.heap.size + 2, 0, none⟩), .pointer (some ⟨w.heap.size + 3, 0, none⟩), .pointer (some ⟨w.heap.size + 4, 0, none⟩), .pointer (some ⟨w.heap.size + 1, 0, none⟩)]] w6 fun e w' => e = .returned (.int .i64 7) ∧ ∃ T : WD, T.a = ({ S.a with fall := none } : A).crash f.keep f.torn ∧ DiskAt Tryz.prog M base K d w' T ∧ Dsk M base w6 w') := fun w6 k6 => by
    have hb6 := hb5.trans (k6.mono hb5.size)
    exact change_hit base K d S w6 (h.below hb6) (Nat.le_trans hbase hb6.size) hd f hit _
  clear h hO hstay hh hit hd hcl hmore hnv x0 x1 x2 x3 x4 hw5 hL0 hL1 hB
  go_enter Tryz.func59, Tryz.ntmps59
  go_upto_region 1 with fail
  rw [HW5.out]
  refine QuietCalls.region (by kernel_rfl) (by kernel_rfl) ?_
  iterate 7 (first | go_big_quiet_step (fail) | quiet_step (fail))
  refine QuietCalls.call1 rfl rfl Tryz.call63 (fun w' hb => HN.out w' (by exact hb)) rfl ?_; simp only [Act.put, List.setIfInBounds_toArray, List.set_cons_succ, List.set_cons_zero]
  iterate 2 (first | go_big_quiet_step (fail) | quiet_step (fail))
  refine QuietCalls.call2 rfl rfl Tryz.call86 (fun w' hb => HH.out w' (by exact hb)) rfl rfl ?_; simp only [Act.put, List.setIfInBounds_toArray, List.set_cons_succ, List.set_cons_zero]
  iterate 1 (first | go_big_quiet_step (fail) | quiet_step (fail))
  refine wpQuiet_nil ?_
  intro w6 k6
  have z0 : w6.cell? ⟨w.heap.size, 0, none⟩ = some (.pointer (some ⟨d, 0, none⟩)) := (k6.cell (p := ⟨w.heap.size, 0, none⟩) (by rw [← HW5.out]; simp; omega)).trans (HZ0.out)
  go_wp2_with (go_at_call 87; refine (HC.out w6 k6).mono ?_; rintro e w7 ⟨rfl, T, hT, hD, hk⟩)
  go_ret
  exact ⟨rfl, T, hT, hD, Dsk.trans (.of_below (hb5.trans (k6.mono hb5.size))) hk⟩
end Go.Proofs.YtoineobjmllicaaGreatDoor
/- Contract: a file goes. -/
namespace Go.Dk
variable {M : Nat → Prop}
/-- Behind a change that leaves other files. -/
def A.left (a : A) (l : List AF) : A := { a with files := l, changes := a.changes + 1 }
end Go.Dk
namespace Go.Proofs.YtoineobjmllicaaGreatDoor
open Go.RowKit Go.Dk
variable {M : Nat → Prop}
set_option maxRecDepth 5000 in
set_option maxHeartbeats 1000000 in
theorem removefn_any (base K d : Nat) (S : WD) (w : World) (h : DiskAt Tryz.prog M base K d w S) (hl : K + 1 ≤ 5000) (name : ByteArray) (hns : name.size ≤ maxLen) (F : WF) (hf : seek WF.nm name.data.toList S.fs = some F)
    (g0 g1 : Nat) (b0 : w.heap[g0]? = some (.cells #[.pointer (some ⟨d, 0, none⟩)] 23 (0, 0))) (b1 : w.heap[g1]? = some (.cells #[.string name] 9 (0, 0))) :
    Calls Tryz.prog 99 #[.pointer (some ⟨g0, 0, none⟩), .pointer (some ⟨g1, 0, none⟩)] w fun e w' => e = .returned (.tuple #[]) ∧
      ∃ T : WD, T.counted.a = S.a.left (del AF.name name.data.toList S.a.files) ∧ T.a.changes = S.a.changes ∧ DiskAt Tryz.prog M base (K + 1) d w' T ∧ Dsk M base w w' := by
  obtain ⟨hm, hnm⟩ := seek_some hf
  obtain ⟨b, n, hmb, hn, hown⟩ : ∃ b n, S.mb = some b ∧ n ≤ K ∧ w.ownsMap Tryz.prog 9 Rp b n (Dfs S.fs) := by
    rcases h.map with ⟨_, e⟩ | ⟨b, n, e, _, hn, hown⟩
    · rw [e] at hm; cases hm
    · exact ⟨b, n, e, hn, hown⟩
  have hrow := h.row
  unfold drow at hrow
  obtain ⟨c0, -⟩ := cells6 hrow
  rw [hmb] at c0
  have q0 : w.cell? ⟨g0, 0, none⟩ = some (.pointer (some ⟨d, 0, none⟩)) := by rw [cell_of_row _ _ _ _ _ _ b0]; rfl
  have q1 : w.cell? ⟨g1, 0, none⟩ = some (.string name) := by rw [cell_of_row _ _ _ _ _ _ b1]; rfl
  have hkey : keyOf Tryz.prog 9 (.string name) = some (.string name.data.toList) := WideMaps.keyOf_string_mk Tryz.underlying9 hns
  have HFin : Hid (∀ q w2, w2.ownsMap Tryz.prog 9 Rp b n ((Dfs S.fs).del (.string name.data.toList)) → (w.drewN q).mapTurned w2 b → ∃ T : WD, T.counted.a = S.a.left (del AF.name name.data.toList S.a.files) ∧ T.a.changes = S.a.changes ∧ DiskAt Tryz.prog M base (K + 1) d w2 T ∧ Dsk M base w w2) := fun q w2 ho ht => by
    have hq : DiskAt Tryz.prog M base K d (w.drewN q) S := h.below ⟨rfl, rfl, rfl, Nat.le_refl _, fun _ _ => rfl⟩
    obtain ⟨k1, k2⟩ := hq.gone hmb hn name.data.toList ho ht
    refine ⟨S.withF (del WF.nm name.data.toList S.fs), ?_, rfl, k1.mono (Nat.le_succ _) hl, ⟨k2.os, k2.tape, k2.output, k2.size, k2.block⟩⟩
    unfold WD.counted WD.withF A.left
    simp only
    rw [map_del (na := WF.nm) (nb := AF.name) WF.a (fun _ => rfl), h.same]
  have HO : Hid (∀ q, (w.drewN q).ownsMap Tryz.prog 9 Rp b n (Dfs S.fs)) := fun q => hown
  clear h hrow b0 b1 hown hm hnm hf
  go_enter Tryz.func99, Tryz.ntmps99
  refine QTail.wp_region_tail (fun w' => ∃ n, w' = w.drewN n) 5 (by kernel_rfl) (by kernel_rfl) ⟨1, rfl⟩ ?_
  simp only [List.take_succ_cons, List.take_zero, List.drop_succ_cons, List.drop_zero]
  repeat (first | go_big_quiet_step (fail) | quiet_step (fail))
  refine wpQuiet_nil ?_
  rintro _ ⟨nq, rfl⟩
  go_wp2_with (first
    | (at_delete; refine wpList_delete_own _ rfl _ _ 65 9 rfl 79 law9 Tryz.underlying65 _ b n _ rfl (HO.out nq) _ _ rfl hkey ?_; intro w2 hown2 hturn2)
    | go_in)
  go_end0
  exact ⟨rfl, HFin.out nq w2 hown2 hturn2⟩
/-- What may be found under a name, told as an error. -/
theorem remove_err (base K d : Nat) (S : WD) (name : ByteArray) (r : Int) (w : World) (h : DiskAt Tryz.prog M base K d w S) (hs : name.size ≤ maxLen) (h0 : r ≠ 0)
    (hr : ableOf S.a name.data.toList = r ∨ (ableOf S.a name.data.toList = 0 ∧ seek WF.nm name.data.toList S.fs = none ∧ r = 2)) :
    Calls Tryz.prog 70 #[.pointer (some ⟨d, 0, none⟩), .string name] w fun e w' => e = .returned (.int .i64 r) ∧ Below w.heap.size w w' := by
  have HF : Hid (∀ w1, Below w.heap.size w w1 → Calls Tryz.prog 93 #[.pointer (some ⟨d, 0, none⟩), .string name] w1 fun e w' => e = .returned (.tuple #[.pointer none, .int .i64 r]) ∧ w' = w1) := fun w1 hb => by
    rcases hr with hr | ⟨h1, h2, rfl⟩
    · exact find_err base K d S name r w1 (h.below hb) hs hr h0
    · exact find_none base K d S name w1 (h.below hb) hs h1 h2
  have hne : (r != 0) = true := by simpa using h0
  clear h hr
  go_enter Tryz.func70, Tryz.ntmps70
  go_wp2_with (go_at_call 93; refine (HF.out _ (((Below.refl _ _).alloc (Nat.le_refl _) _).alloc (by simp) _)).mono ?_; rintro e w' ⟨rfl, rfl⟩)
  go_ret
  exact ⟨rfl, ((Below.refl _ _).alloc (Nat.le_refl _) _).alloc (by simp) _⟩
set_option maxHeartbeats 1000000 in
theorem remove_some (base K d : Nat) (S : WD) (name : ByteArray) (w : World) (h : DiskAt Tryz.prog M base K d w S) (hs : name.size ≤ maxLen) (ha : ableOf S.a name.data.toList = 0) (F : WF) (hf : seek WF.nm name.data.toList S.fs = some F) (r : Int) (R : World → Prop)
    (hch : ∀ w1, Below w.heap.size w w1 → w1.heap[w.heap.size]? = some (.cells #[.pointer (some ⟨d, 0, none⟩)] 23 (0, 0)) → w1.heap[w.heap.size + 1]? = some (.cells #[.string name] 9 (0, 0)) →
      Calls Tryz.prog 87 #[.pointer (some ⟨d, 0, none⟩), .func (.func 99) #[] #[.pointer (some ⟨w.heap.size, 0, none⟩), .pointer (some ⟨w.heap.size + 1, 0, none⟩)]] w1 fun e w' => e = .returned (.int .i64 r) ∧ R w') :
    Calls Tryz.prog 70 #[.pointer (some ⟨d, 0, none⟩), .string name] w fun e w' => e = .returned (.int .i64 r) ∧ R w' := by
  have HF : Hid (∀ w1, Below w.heap.size w w1 → Calls Tryz.prog 93 #[.pointer (some ⟨d, 0, none⟩), .string name] w1 fun e w' => e = .returned (.tuple #[.pointer (some ⟨F.blk, 0, none⟩), .int .i64 0]) ∧ w' = w1) := fun w1 hb => find_some base K d S name F w1 (h.below hb) hs ha hf
  have HC := hide (hch ((w.alloc (.cells #[.pointer (some ⟨d, 0, none⟩)] 23)).alloc (.cells #[.string name] 9)) (((Below.refl _ _).alloc (Nat.le_refl _) _).alloc (by simp) _)
    ((heap_alloc_old _ _ (by simp)).trans (heap_alloc_new w _)) (by have := heap_alloc_new (w.alloc (.cells #[.pointer (some ⟨d, 0, none⟩)] 23)) (.cells #[.string name] 9); simpa using this))
  clear h hch hf
  generalize F.blk = B at *
  go_enter Tryz.func70, Tryz.ntmps70
  go_wp2_with (first
    | (go_at_call 93; refine (HF.out _ (((Below.refl _ _).alloc (Nat.le_refl _) _).alloc (by simp) _)).mono ?_; rintro e w' ⟨rfl, rfl⟩)
    | (go_at_call 87; refine HC.out.mono ?_; rintro e w2 ⟨rfl, hR⟩))
  go_ret
  exact ⟨rfl, hR⟩
end Go.Proofs.YtoineobjmllicaaGreatDoor
