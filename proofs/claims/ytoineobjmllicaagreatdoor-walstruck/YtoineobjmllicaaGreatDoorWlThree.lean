/- Several texts in one: WalAwake, WalCut. -/
import Derived.Test.YtoineobjmllicaaGreatDoorWlOne
/- Contract: what was laid anew is there behind a crash, and nothing else. -/
namespace Go.Wal
open Go.RowKit Go.Dk
/-- A disk, and the world in which it was begun. -/
structure Wk (P : Program) (w : World) (d K : Nat) (a : A) (W : World) : Prop where
  disk : ∃ T : WD, T.a = a ∧ DiskAt P (fun _ => True) w.heap.size K d W T
  below : Below w.heap.size w W
theorem Wk.under {P : Program} {w W W' : World} {d K : Nat} {a : A} (h : Wk P w d K a W) (hb : Below W.heap.size W W') : Wk P w d K a W' := by
  obtain ⟨T, h1, h2⟩ := h.disk
  exact ⟨⟨T, h1, h2.below hb⟩, h.below.trans (hb.mono h.below.size)⟩
theorem LogAt.mono {T base base' b d : Nat} {l : Lg} {rv : Value} {w : World} (h : LogAt T base b d l rv w) (hle : base' ≤ base) : LogAt T base' b d l rv w := ⟨h.row, own_mono h.recs hle, h.apart, Nat.le_trans hle h.ge⟩
theorem own_ge {w : World} {B e k n g : Nat} {v : Value} {xs : List Value} (h : w.ownsRow B e k v n xs) (hg : v.ownBlock = some g) : B ≤ g := by
  rcases h.2 with ⟨rfl, _⟩ | ⟨g', cap, cur, rfl, hge, _⟩
  · cases hg
  · cases hg; exact hge
theorem LogAt.keeps {M : Nat → Prop} {T base b d : Nat} {l : Lg} {rv : Value} {w w' : World} (h : LogAt T base b d l rv w) (k : Lds M base b rv w w') (hb : base ≤ w.heap.size) : Below base w w' :=
  Tch.below k (fun _ x => x.elim (fun x => x.1) fun x => x.elim (fun e => e ▸ h.ge) fun x => own_ge h.recs x) hb
/-- A row of texts that was laid just now. -/
theorem Texts.new (w : World) (cs : Array Value) (ls : List Bs) (h : cs.toList = tv ls) : Texts (w.alloc (.cells cs 9)) (.slice (some ⟨w.heap.size, 0, none⟩) ls.length ls.length) ls :=
  ⟨_, _, rfl, Nat.le_refl _, fun j l hj => ⟨w.heap.size, 0, rfl, by
    rw [cell_of_row _ _ _ _ _ _ (heap_alloc_new w _), Nat.zero_add, ← Array.getElem?_toList, h]
    unfold tv
    rw [List.getElem?_map, hj]
    rfl⟩⟩
theorem Texts.new_dsk {M : Nat → Prop} {base : Nat} (w w' : World) (cs : Array Value) (ls : List Bs) (h : cs.toList = tv ls) (hk : Dsk M base (w.alloc (.cells cs 9)) w') : Texts w' (.slice (some ⟨w.heap.size, 0, none⟩) ls.length ls.length) ls :=
  ⟨_, _, rfl, Nat.le_refl _, fun j l hj => ⟨w.heap.size, 0, rfl, by
    rw [cell_of_row _ _ _ _ _ _ (box_kept hk (heap_alloc_new w _) (by simp [dkind])), Nat.zero_add, ← Array.getElem?_toList, h]
    unfold tv
    rw [List.getElem?_map, hj]
    rfl⟩⟩
end Go.Wal
namespace Go.Proofs.YtoineobjmllicaaGreatDoor
open Go.RowKit Go.Dk Go.Wal
set_option maxRecDepth 100000 in
set_option maxHeartbeats 4000000 in
theorem walAwake_any (w : World) (hv : Vars w) : Calls Tryz.prog 11 #[] w fun e w' => e = .returned (.bool true) ∧ Below w.heap.size w w' := by
  have h5 : 5 ≤ w.heap.size := hv.size
  have HN : Hid (Calls Tryz.prog 9 #[] w fun e w1 => e = .returned (.pointer (some ⟨w.heap.size, 0, none⟩)) ∧ Wk Tryz.prog w w.heap.size 0 A0 w1) :=
    (new_any w).mono fun e w1 ⟨he, hr, hb⟩ => ⟨he, ⟨⟨bare (-1), rfl, fresh_disk w.heap.size w.heap.size w1 (Nat.le_refl _) hr⟩, hb⟩⟩
  have HO1 : Hid (∀ w1, Wk Tryz.prog w w.heap.size 0 A0 w1 → Calls Tryz.prog 10 #[.pointer (some ⟨w.heap.size, 0, none⟩), .int .i64 100] w1 fun e w2 => ∃ b rv, e = .returned (.tuple #[.pointer (some ⟨b, 0, none⟩), .int .i64 0, .int .i64 0]) ∧ LogAt TLog w.heap.size b w.heap.size L0 rv w2 ∧ Wk Tryz.prog w w.heap.size 1 A0 w2) := fun w1 h1 => by
    obtain ⟨T, hT, hD⟩ := h1.disk
    have := walOpen_any (M := fun _ => True) (fun _ => trivial) w.heap.size 0 w.heap.size T 100 w1 hD (Vars.below hv h1.below) h1.below.size h5 (by rw [hT]; decide) (by decide) (by rw [hT]; rfl) (by rw [hT]; intro f hf; cases hf) (by rw [hT]; intro f hf; cases hf) (by rw [hT, w_gather]; decide)
    rw [hT, w_open, w_gather] at this
    refine this.mono ?_
    rintro e w2 ⟨h2 | ⟨b, rv, he, hL, _, _⟩, ⟨T', hT', hD'⟩, hk⟩
    · exact absurd h2.2.1 (by simp)
    · exact ⟨b, rv, he, hL.mono h1.below.size, ⟨⟨T', hT', hD'⟩, h1.below.trans (hk.below h1.below.size)⟩⟩
  have HAD : Hid (∀ w2 b rv, LogAt TLog w.heap.size b w.heap.size L0 rv w2 → Wk Tryz.prog w w.heap.size 1 A0 w2 → Calls Tryz.prog 18 #[.pointer (some ⟨b, 0, none⟩), .slice (some ⟨w2.heap.size, 0, none⟩) 2 2] (w2.alloc (.cells #[.string ⟨#[97]⟩, .string ⟨#[98]⟩] 9)) fun e w3 => e = .returned (.int .i64 0) ∧ (∃ rv', LogAt TLog w.heap.size b w.heap.size L2 rv' w3) ∧ Wk Tryz.prog w w.heap.size 2 A2 w3) := fun w2 b rv hL h2 => by
    have hb2 : Below w2.heap.size w2 (w2.alloc (.cells #[.string ⟨#[97]⟩, .string ⟨#[98]⟩] 9)) := (Below.refl _ _).alloc (Nat.le_refl _) _
    have h2' := h2.under hb2
    obtain ⟨T, hT, hD⟩ := h2'.disk
    have hL' := hL.below hb2
    have := add_any (M := fun _ => True) (fun _ => trivial) w.heap.size w.heap.size 1 b w.heap.size T L0 rv (.slice (some ⟨w2.heap.size, 0, none⟩) 2 2) [[97], [98]] _ hD (Vars.below hv h2'.below) hL' (Texts.new w2 _ [[97], [98]] rfl) (fun w' hk => Texts.new_dsk w2 w' _ [[97], [98]] rfl hk) (fun n c e => by cases e) h2'.below.size h2'.below.size (by decide) (by decide) (by decide) (by decide) (by decide +kernel)
    rw [hT] at this
    refine this.mono ?_
    rintro e w3 ⟨he, hL3, hT3, hk⟩
    refine ⟨by rw [he, w_add], hL3.elim fun rv' h => ⟨rv', h.1⟩, ⟨hT3, ?_⟩⟩
    exact h2'.below.trans (hL'.keeps hk h2'.below.size)
  have HRS : Hid (∀ w3 b rv, LogAt TLog w.heap.size b w.heap.size L2 rv w3 → Wk Tryz.prog w w.heap.size 2 A2 w3 → Calls Tryz.prog 13 #[.pointer (some ⟨b, 0, none⟩), .slice (some ⟨w3.heap.size, 0, none⟩) 1 1] (w3.alloc (.cells #[.string ⟨#[99]⟩] 9)) fun e w4 => e = .returned (.int .i64 0) ∧ Wk Tryz.prog w w.heap.size 6 A4 w4) := fun w3 b rv hL h3 => by
    have hb3 : Below w3.heap.size w3 (w3.alloc (.cells #[.string ⟨#[99]⟩] 9)) := (Below.refl _ _).alloc (Nat.le_refl _) _
    have h3' := h3.under hb3
    obtain ⟨T, hT, hD⟩ := h3'.disk
    have hL' := hL.below hb3
    have e2 : L2.last + 1 = 2 := by rw [w_l2.2.2.1]
    have := reset_any (M := fun _ => True) (fun _ => trivial) w.heap.size w.heap.size 2 b w.heap.size T L2 rv (.slice (some ⟨w3.heap.size, 0, none⟩) 1 1) [[99]] _ hD (Vars.below hv h3'.below) hL' (Texts.new w3 _ [[99]] rfl) (fun w' hk => Texts.new_dsk w3 w' _ [[99]] rfl hk) ⟨_, _, rfl, .inr ⟨_, _, rfl⟩⟩ h3'.below.size h3'.below.size h5 h5 (by decide) (by rw [w_l2.2.2.1]; decide) (by decide) (by decide) (by decide +kernel)
      (by rw [hT, e2]; intro _; exact ⟨w_lay_ok.1, w_lay_ok.2.1, by show 2 + 2 + A3.files.length ≤ _; rw [w_lay_ok.2.2]; decide⟩) 6 (by rw [hT, e2]; intro _; show 2 + 2 + A3.files.length ≤ _; rw [w_lay_ok.2.2]; decide) (by decide) (by decide)
    rw [hT, w_reset] at this
    refine this.mono ?_
    rintro e w4 ⟨he, hL4, hT4, hk⟩
    exact ⟨he, ⟨hT4, h3'.below.trans (hL'.keeps hk h3'.below.size)⟩⟩
  have HCR : Hid (∀ w4, Wk Tryz.prog w w.heap.size 6 A4 w4 → Calls Tryz.prog 16 #[.pointer (some ⟨w.heap.size, 0, none⟩), .int .i64 0, .int .i64 0] w4 fun e w5 => e = .returned (.tuple #[]) ∧ Wk Tryz.prog w w.heap.size 6 (A4.crash 0 0) w5) := fun w4 h4 => by
    obtain ⟨T, hT, hD⟩ := h4.disk
    refine (crash_op w.heap.size 6 w.heap.size T 0 0 w4 hD h4.below.size).mono ?_
    rintro e w5 ⟨he, T', hT', hD', hk⟩
    exact ⟨he, ⟨⟨T', by rw [hT', hT], hD'⟩, h4.below.trans (hk.below h4.below.size)⟩⟩
  have HUP : Hid (∀ w5, Wk Tryz.prog w w.heap.size 6 (A4.crash 0 0) w5 → Calls Tryz.prog 17 #[.pointer (some ⟨w.heap.size, 0, none⟩)] w5 fun e w6 => ∃ x, e = .returned (.bool x) ∧ Wk Tryz.prog w w.heap.size 6 A6 w6) := fun w5 h5' => by
    obtain ⟨T, hT, hD⟩ := h5'.disk
    refine (up_op w.heap.size 6 w.heap.size T w5 hD).mono ?_
    rintro e w6 ⟨he, T', hT', hD', hk⟩
    exact ⟨_, he, ⟨⟨T', by rw [hT', hT]; rfl, hD'⟩, h5'.below.trans (hk.below h5'.below.size)⟩⟩
  have HO2 : Hid (∀ w6, Wk Tryz.prog w w.heap.size 6 A6 w6 → Calls Tryz.prog 10 #[.pointer (some ⟨w.heap.size, 0, none⟩), .int .i64 100] w6 fun e w7 => ∃ b rv n, e = .returned (.tuple #[.pointer (some ⟨b, 0, none⟩), .int .i64 n, .int .i64 0]) ∧ LogAt TLog w.heap.size b w.heap.size L4 rv w7 ∧ Below w.heap.size w w7) := fun w6 h6 => by
    obtain ⟨T, hT, hD⟩ := h6.disk
    have := walOpen_any (M := fun _ => True) (fun _ => trivial) w.heap.size 6 w.heap.size T 100 w6 hD (Vars.below hv h6.below) h6.below.size h5 (by rw [hT, w_six.2.2.2]; decide) (by decide) (by rw [hT]; exact w_six.1) (by rw [hT]; exact w_six.2.1) (by rw [hT]; exact w_six.2.2.1) (by rw [hT, w_G6]; decide)
    rw [hT, w_G6, w_open6.1, w_open6.2] at this
    refine this.mono ?_
    rintro e w7 ⟨h7 | ⟨b, rv, he, hL, _, _⟩, _, hk⟩
    · exact absurd h7.2.1 (by simp)
    · exact ⟨b, rv, _, he, hL.mono h6.below.size, h6.below.trans (hk.below h6.below.size)⟩
  have HAL : Hid (∀ w7 b rv, LogAt TLog w.heap.size b w.heap.size L4 rv w7 → Calls Tryz.prog 20 #[.pointer (some ⟨b, 0, none⟩)] w7 fun e w8 => ∃ g c, e = .returned (.slice (some ⟨g, 0, none⟩) 1 c) ∧ w8.cell? ⟨g, 0, none⟩ = some (.string ⟨#[99]⟩) ∧ Below w7.heap.size w7 w8) := fun w7 b rv hL => by
    refine (allRecs_any w.heap.size b w.heap.size L4 rv w7 hL (by decide)).mono ?_
    rintro e w8 ⟨v, he, ho, hb⟩
    rcases ho.2 with ⟨_, h0⟩ | ⟨g, cap, cur, hv', _, hr, _, _, _, ht⟩
    · exact absurd h0 (by decide)
    · refine ⟨g, cap, by rw [he, hv']; rfl, ?_, hb⟩
      rw [cell_of_row _ _ _ _ _ _ hr, ← Array.getElem?_toList]
      have : (cur.toList.take (L4.recs.length * 1))[0]? = (tv L4.recs)[0]? := by rw [ht]
      rw [List.getElem?_take] at this
      rw [if_pos (by decide)] at this
      rw [this]
      rfl
  clear hv
  go_enter Tryz.func11, Tryz.ntmps11
  go_wp2_with (first
    | (go_at_call 9; refine HN.out.mono ?_; rintro e w1 ⟨rfl, k1⟩; have K1 := hide k1; clear k1)
    | (go_at_call 18; refine (HAD.out w2 b rv K2.out.1 K2.out.2).mono ?_; rintro e w3 ⟨rfl, ⟨rv3, l3⟩, k3⟩; have K3 := hide (And.intro l3 k3); clear l3 k3)
    | (go_at_call 13; refine (HRS.out w3 b rv3 K3.out.1 K3.out.2).mono ?_; rintro e w4 ⟨rfl, k4⟩; have K4 := hide k4; clear k4)
    | (go_at_call 16; refine (HCR.out w4 K4.out).mono ?_; rintro e w5 ⟨rfl, k5⟩; have K5 := hide k5; clear k5)
    | (go_at_call 17; refine (HUP.out w5 K5.out).mono ?_; rintro e w6 ⟨x6, rfl, k6⟩; have K6 := hide k6; clear k6)
    | (go_at_call 10; first
       | (refine (HO2.out w6 K6.out).mono ?_; rintro e w7 ⟨b7, rv7, n7, rfl, l7, k7⟩; have K7 := hide (And.intro l7 k7); clear l7 k7)
       | (refine (HO1.out w1 K1.out).mono ?_; rintro e w2 ⟨b, rv, rfl, l2, k2⟩; have K2 := hide (And.intro l2 k2); clear l2 k2))
    | (go_at_call 20; refine (HAL.out w7 b7 rv7 K7.out.1).mono ?_; rintro e w8 ⟨g8, c8, rfl, h8, k8⟩; have K8 := hide k8; clear k8))
  go_ret
  refine ⟨by rfl, ?_⟩
  exact K7.out.2.trans (K8.out.mono K7.out.2.size)
end Go.Proofs.YtoineobjmllicaaGreatDoor
/- Contracts: the laws' own cuts: a text of at most 200 bytes, a row of at most six such. -/
namespace Go.Wal
open Go.RowKit Go.Dk
def few7 (s : Bs) : Bs := s.take 200
def cut7 (ls : List Bs) : List Bs := (ls.take 6).map few7
theorem few7_length (s : Bs) : (few7 s).length ≤ 200 := by unfold few7; rw [List.length_take]; omega
theorem cut7_length (ls : List Bs) : (cut7 ls).length ≤ 6 := by unfold cut7; rw [List.length_map, List.length_take]; omega
theorem cut7_few {ls : List Bs} {t : Bs} (h : t ∈ cut7 ls) : t.length ≤ 200 := by
  unfold cut7 at h
  obtain ⟨x, _, rfl⟩ := List.mem_map.1 h
  exact few7_length x
theorem cut7_step {ls : List Bs} {i : Nat} {l : Bs} (h : ls[i]? = some l) (_hi : i < 6) : (ls.take (i + 1)).map few7 = (ls.take i).map few7 ++ [few7 l] := by
  rw [List.take_add_one, h, List.map_append]
  rfl
theorem cut7_end {ls : List Bs} {i : Nat} (h : i = ls.length ∨ i = 6) (hi : i ≤ 6) : (ls.take i).map few7 = cut7 ls := by
  unfold cut7
  rcases h with rfl | rfl
  · rw [List.take_of_length_le (Nat.le_refl _), List.take_of_length_le hi]
  · rfl
end Go.Wal
namespace Go.Proofs.YtoineobjmllicaaGreatDoor
open Go.RowKit Go.Dk Go.Wal
set_option maxHeartbeats 400000 in
theorem few7_any (s : Bs) (w : World) (hs : s.length ≤ maxLen) :
    Calls Tryz.prog 29 #[.string ⟨s.toArray⟩] w fun e w' => e = .returned (.string ⟨(few7 s).toArray⟩) ∧ w' = w := by
  unfold maxLen at hs
  have hz : (⟨s.toArray⟩ : ByteArray).size = s.length := ba_size s
  have hx : 200 < s.length → (⟨s.toArray⟩ : ByteArray).extract 0 200 = ⟨(few7 s).toArray⟩ := fun h => by
    apply ByteArray.ext
    rw [ByteArray.data_extract]
    unfold few7
    apply Array.ext'
    simp
  by_cases h : 200 < s.length
  · have HX := hide (hx h)
    clear hx
    generalize (⟨s.toArray⟩ : ByteArray) = S at *
    go_enter Tryz.func29, Tryz.ntmps29
    go_wp2
    go_ret
    exact ⟨by rw [← HX.out]; rfl, rfl⟩
  · have h2 : few7 s = s := by unfold few7; exact List.take_of_length_le (by omega)
    rw [h2]
    clear hx
    generalize (⟨s.toArray⟩ : ByteArray) = S at *
    go_enter Tryz.func29, Tryz.ntmps29
    go_wp2
    go_ret
    exact ⟨rfl, rfl⟩
set_option maxRecDepth 100000 in
set_option maxHeartbeats 1000000 in
theorem cut7_any (v : Value) (ls : List Bs) (w : World) (h : Texts w v ls) (hs : ∀ l ∈ ls, l.length ≤ maxLen) (hn : ls.length ≤ maxLen) :
    Calls Tryz.prog 12 #[v] w fun e w' => ∃ v', e = .returned v' ∧ w'.ownsRow w.heap.size 9 1 v' (cut7 ls).length (tv (cut7 ls)) ∧ Below w.heap.size w w' := by
  obtain ⟨i9, hi9, hz0, hz1, hz2⟩ := info_parts info_str
  obtain ⟨a, c, rfl, hc, hcells⟩ := h
  have HC := hide hcells
  have HS := hide hs
  unfold maxLen at hn
  clear hs hcells
  go_enter Tryz.func12, Tryz.ntmps12
  go_wp2_with fail
  go_loopw [3, 4] (fun vo vi wr => ∃ i : Nat, i ≤ ls.length ∧ i ≤ 6 ∧ vi = .int .i64 i ∧ Hid (wr.ownsRow w.heap.size 9 1 vo i (tv ((ls.take i).map few7)) ∧ Below w.heap.size w wr)) (fun _ vi _ => 6 - (intOf vi).toNat)
  case atStart =>
    exact ⟨0, Nat.zero_le _, Nat.zero_le _, rfl, ⟨rfl, .inr ⟨w.heap.size, 0, #[], rfl, Nat.le_refl _, heap_alloc_new _ _, Nat.le_refl _, Nat.zero_le _, rfl, rfl⟩⟩, (Below.refl _ _).alloc (Nat.le_refl _) _⟩
  case round =>
    obtain ⟨i, hi, hi6, rfl, HH⟩ := hrel
    by_cases hlt : i < ls.length ∧ i < 6
    · obtain ⟨hl1, hl2⟩ := hlt
      obtain ⟨l, hl⟩ : ∃ l, ls[i]? = some l := ⟨_, List.getElem?_eq_getElem hl1⟩
      obtain ⟨b, off, rfl, hcell⟩ := HC.out i l hl
      have hll := HS.out l (List.mem_of_getElem? hl)
      have q0 : wr.cell? ⟨b, off + i, none⟩ = some (.string ⟨l.toArray⟩) := (HH.out.2.cell (p := ⟨b, off + i, none⟩) (cell_lt hcell)).trans hcell
      have HF : Hid (∀ w2, Calls Tryz.prog 29 #[.string ⟨l.toArray⟩] w2 fun e w' => e = .returned (.string ⟨(few7 l).toArray⟩) ∧ w' = w2) := fun w2 => few7_any l w2 hll
      have HE := hide (cut7_step hl hl2)
      obtain ⟨ra, rc, rfl⟩ := own_form HH.out.1
      clear hcell hl hll
      go_wp2_with (first
        | (go_at_call 29; refine (HF.out _).mono ?_; rintro e w2 ⟨rfl, rfl⟩)
        | (at_builtin; refine wpList_append_lies _ rfl _ _ 30 rfl w.heap.size 9 i9 (.string ⟨#[]⟩) 1 16 under_strs hi9 hz0 hz1 hz2 rfl (by decide) _ _ _ rfl (HH.out.1.alloc _) ⟨w2.heap.size, 0, none⟩ 1 1 [.string ⟨(few7 l).toArray⟩] rfl rfl ?a1 ?a2 (by decide) ?a3 ?a4 ?a5 (w2.heap.size + 1) (by simp) ?_))
      case a1 => exact cell_one_new _ _ _
      case a2 => intro u hu; simp at hu; subst hu; rfl
      case a3 => unfold maxLen; omega
      case a4 => omega
      case a5 => have h1 := HH.out.2.size; simp; omega
      intro g cap w3 hown hgrow _ _
      have H3 : Hid (w3.ownsRow w.heap.size 9 1 (.slice (some ⟨g, 0, none⟩) (i + 1) cap) (i + 1) (tv ((ls.take (i + 1)).map few7)) ∧ Below w.heap.size w w3) := by
        have hb2 := HH.out.2.alloc HH.out.2.size (.cells #[.string ⟨(few7 l).toArray⟩] 9)
        refine ⟨?_, hb2.grown hgrow hb2.size fun k e => ownsRow_ge HH.out.1 e⟩
        rw [HE.out]
        unfold tv at hown ⊢
        rw [← List.map_take] at hown
        rw [List.map_append]
        exact hown
      clear hown hgrow
      go_wp2_with fail
      exact ⟨⟨i + 1, by omega, by omega, by first | rfl | go_num, H3.out.1, H3.out.2⟩, by simp [intOf]; omega⟩
    · have hE : (ls.take i).map few7 = cut7 ls := cut7_end (by omega) hi6
      have hlen : (cut7 ls).length = i := by rw [← hE, List.length_map, List.length_take]; omega
      obtain ⟨ra, rc, rfl⟩ := own_form HH.out.1
      have HD : Hid (wr.ownsRow w.heap.size 9 1 (.slice ra i rc) (cut7 ls).length (tv (cut7 ls)) ∧ Below w.heap.size w wr) := by
        have := HH.out
        rw [hE] at this
        rw [hlen]
        exact this
      clear hE hlen
      by_cases h1 : i < ls.length
      · have h2 : i = 6 := by omega
        subst h2
        go_wp2_with fail
        go_ret
        exact ⟨_, rfl, HD.out.1, HD.out.2⟩
      · have h2 : i = ls.length := by omega
        subst h2
        go_wp2_with fail
        go_ret
        exact ⟨_, rfl, HD.out.1, HD.out.2⟩
end Go.Proofs.YtoineobjmllicaaGreatDoor
