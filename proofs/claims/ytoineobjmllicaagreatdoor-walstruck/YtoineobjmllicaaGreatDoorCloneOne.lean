/- Several texts in one: DiskClone. -/
import Derived.Test.YtoineobjmllicaaGreatDoorReadsOne
import Derived.Test.YtoineobjmllicaaGreatDoorRegAll
/- Contracts: a disk copied, all of whose files are settled. -/
namespace Go.Proofs.YtoineobjmllicaaGreatDoor
open Go.RowKit Go.Dk Go.Wal
theorem nilB (w : World) : (binOp .eql 100 (.slice none 0 0) (.slice none 0 0)).run Tryz.prog w = .ok (.bool true) w := by kernel_rfl
theorem someB (g n c : Nat) (w : World) : (binOp .eql 100 (.slice (some ⟨g, 0, none⟩) n c) (.slice none 0 0)).run Tryz.prog w = .ok (.bool false) w := by kernel_rfl
theorem bs_one (l : Bs) : ∀ u ∈ bs l, u.oneCell' = true := fun u hu => by
  obtain ⟨c, _, rfl⟩ := List.mem_map.1 hu
  rfl
set_option maxHeartbeats 1000000 in
theorem cloneB_any (base : Nat) (v : Value) (l : Bs) (w : World) (h : Row base w v l) (hl : l.length ≤ 10000000) :
    Calls Tryz.prog 91 #[v] w fun e w' => ∃ v', e = .returned v' ∧ Row w.heap.size w' v' l ∧ Below w.heap.size w w' := by
  obtain ⟨i0, hi, hz0, hz1, hz2⟩ := info_parts infoB
  have hbl : (bs l).length = l.length := List.length_map _
  have h' := h
  obtain ⟨_, ⟨rfl, h0⟩ | ⟨g, cap, cur, rfl, h1, h2, h3⟩⟩ := h
  · have hl0 : l = [] := List.eq_nil_of_length_eq_zero h0
    subst hl0
    have hn := nilB
    go_enter Tryz.func91, Tryz.ntmps91
    go_wp2_with fail
    go_ret
    exact ⟨_, rfl, Row.nil _ _, Below.refl _ _⟩
  · have hn := someB g l.length cap
    have hb0 : Below w.heap.size w (w.alloc (.cells #[] 5)) := (Below.refl _ _).alloc (Nat.le_refl _) _
    have HOWN0 : Hid ((w.alloc (.cells #[] 5)).ownsRow w.heap.size 5 1 (.slice (some ⟨w.heap.size, 0, none⟩) 0 0) 0 []) := World.ownsRow_made w #[] 0 (Nat.le_refl _) (Nat.zero_le _) rfl
    have HCX : Hid (∀ j u, (bs l)[j]? = some u → (w.alloc (.cells #[] 5)).cell? ((⟨g, 0, none⟩ : Addr).add j) = some u) := fun j u hj => by
      have hjl := (List.getElem?_eq_some_iff.1 hj).1
      rw [Go.WideShapes.add_plain, Nat.zero_add]
      exact ((own_below h' hb0).cellAt j (by rw [hbl] at hjl; omega)).trans hj
    clear h' h1 h2 h3
    go_enter Tryz.func91, Tryz.ntmps91
    go_wp2_with (at_builtin; refine wpList_append_own _ rfl _ _ 100 rfl w.heap.size 5 i0 (.int .u8 0) 1 1 Tryz.underlying100 hi hz0 hz1 hz2 rfl (by decide) _ _ _ rfl HOWN0.out ⟨g, 0, none⟩ l.length cap (bs l) rfl ?b1 HCX.out (bs_one l) ?b3 ?b4 ?b5 ?_)
    case b1 => rw [hbl, Nat.mul_one]
    case b3 => unfold maxLen; omega
    case b4 => omega
    case b5 => exact hb0.size
    intro v1 w9 hown1 hgrow1 hne1
    obtain ⟨g1, c1, rfl⟩ := own_some hown1 hne1
    have HX : Hid (Row w.heap.size w9 (.slice (some ⟨g1, 0, none⟩) l.length c1) l ∧ Below w.heap.size w w9) := by
      refine ⟨?_, hb0.grown hgrow1 hb0.size fun k e => ownsRow_ge HOWN0.out e⟩
      unfold Row
      simpa using hown1
    clear hown1 hgrow1 hne1
    go_wp2_with fail
    go_ret
    exact ⟨_, rfl, HX.out⟩
set_option maxRecDepth 100000 in
set_option maxHeartbeats 2000000 in
theorem cloneFile_any (base : Nat) (F : WF) (w : World) (h : FileAt base w F) (hp : F.a.puts = []) (hl : F.a.sure.length ≤ 10000000) :
    Calls Tryz.prog 64 #[fptr F.blk] w fun e w' => ∃ F' : WF, e = .returned (fptr F'.blk) ∧ F'.a = F.a ∧ FileAt w.heap.size w' F' ∧ (∀ b, F'.foot b → w.heap.size ≤ b) ∧ Below w.heap.size w w' := by
  obtain ⟨⟨name, sure, st, puts⟩, blk, sv, lv, cs⟩ := F
  dsimp only at hp hl
  subst hp
  have hcs : cs = [] := List.eq_nil_of_length_eq_zero h.story.length
  subst hcs
  have hsv : Row base w sv sure := h.all (sv, sure) (List.mem_cons_self ..)
  obtain ⟨sa, sc, rfl⟩ := Row.form hsv
  have hlv := h.loose
  dsimp only at hlv
  obtain ⟨la, lc, hlve⟩ : ∃ a c, lv = .slice a 0 c := by
    obtain ⟨_, ⟨h1, _⟩ | ⟨g, cap, cur, h1, _⟩⟩ := hlv
    · exact ⟨none, 0, h1⟩
    · exact ⟨_, _, h1⟩
  subst hlve
  have HC : Hid (∀ U, Below w.heap.size w U → U.cell? ⟨blk, 0, none⟩ = some (.bool st) ∧ U.cell? ⟨blk, 1, none⟩ = some (.slice sa sure.length sc) ∧ U.cell? ⟨blk, 2, none⟩ = some (.slice la 0 lc)) := fun U hU => by
    have hrow := (hU.block _ (block_lt h.row)).trans h.row
    refine ⟨?_, ?_, ?_⟩ <;> (rw [cell_of_row _ _ _ _ _ _ hrow]; rfl)
  have HB : Hid (∀ U, Below w.heap.size w U → Calls Tryz.prog 91 #[.slice sa sure.length sc] U fun e w' => ∃ v', e = .returned v' ∧ Row U.heap.size w' v' sure ∧ Below U.heap.size U w') := fun U hU => cloneB_any base _ sure U (own_below hsv hU) hl
  unfold fptr
  clear h hsv hlv
  go_enter Tryz.func64, Tryz.ntmps64
  go_upto_region 1 with fail
  refine RegionOwn.regionK 9 43 9 1 (fun i => match i with
    | 0 => RegionOwn.val (.pointer (some ⟨blk, 0, none⟩))
    | 1 => RegionOwn.val (.pointer (some ⟨blk, 0, none⟩))
    | 2 => RegionOwn.val (.pointer (some ⟨blk, 0, none⟩))
    | 3 => RegionOwn.val (.bool st)
    | 4 => RegionOwn.val (.pointer (some ⟨blk, 0, none⟩))
    | 5 => RegionOwn.val (.pointer (some ⟨blk, 0, none⟩))
    | 6 => RegionOwn.val (.pointer (some ⟨blk, 1, none⟩))
    | 7 => RegionOwn.val (.slice sa sure.length sc)
    | 8 => RegionOwn.fact (fun x v => Row w.heap.size x v sure)
    | _ => RegionOwn.val undef) (fun _ => none) ?_ (by kernel_rfl) rfl (by kernel_rfl) ?_ ?_ ?_
  · intro i hi
    match i, hi with
    | 0, _ | 1, _ | 2, _ | 3, _ | 4, _ | 5, _ | 6, _ | 7, _ | 8, _ => rfl
    | i + 9, h => exact absurd h (by omega)
  · intro i p hi h
    refine ⟨fun _ _ => rfl, ?_⟩
    match i, hi, h with
    | 0, _, h | 1, _, h | 2, _, h | 3, _, h | 4, _, h | 5, _, h | 6, _, h | 7, _, h => cases h
    | 8, _, h => cases h; exact fun x y v h hb => own_below h hb
    | i + 9, h, _ => exact absurd h (by omega)
  · intro i hi y x' hfr hbx hD hO K2 hK2
    match i, hi with
    | 0, _ =>
      have e0 : RegionOwn.T y 0 = .pointer (some ⟨blk, 0, none⟩) := RegionOwn.Fr.at hfr (by kernel_rfl) rfl
      refine RegionOwn.quietG rfl rfl hK2 rfl rfl ?_
      clear hK2 hD hfr hO
      unfold RegionOwn.T at e0
      go_simp
    | 1, _ =>
      have d0 : RegionOwn.T y 7 = .pointer (some ⟨blk, 0, none⟩) := hD 0 7 (by decide) rfl (by kernel_rfl) (.inl rfl)
      refine RegionOwn.quietG rfl rfl hK2 rfl rfl ?_
      clear hK2 hD hfr hO
      unfold RegionOwn.T at d0
      go_simp
    | 2, _ =>
      have d1 : RegionOwn.T y 8 = .pointer (some ⟨blk, 0, none⟩) := hD 1 8 (by decide) rfl (by kernel_rfl) (.inl rfl)
      refine RegionOwn.quietG rfl rfl hK2 rfl rfl ?_
      clear hK2 hD hfr hO
      unfold RegionOwn.T at d1
      go_simp
    | 3, _ =>
      have d2 : RegionOwn.T y 9 = .pointer (some ⟨blk, 0, none⟩) := hD 2 9 (by decide) rfl (by kernel_rfl) (.inl rfl)
      obtain ⟨c0, c1, c2⟩ := HC.out x' hbx
      refine RegionOwn.quietG rfl rfl hK2 rfl rfl ?_
      clear hK2 hD hfr hO
      unfold RegionOwn.T at d2
      go_simp
    | 4, _ =>
      have e0 : RegionOwn.T y 0 = .pointer (some ⟨blk, 0, none⟩) := RegionOwn.Fr.at hfr (by kernel_rfl) rfl
      refine RegionOwn.quietG rfl rfl hK2 rfl rfl ?_
      clear hK2 hD hfr hO
      unfold RegionOwn.T at e0
      go_simp
    | 5, _ =>
      have d4 : RegionOwn.T y 11 = .pointer (some ⟨blk, 0, none⟩) := hD 4 11 (by decide) rfl (by kernel_rfl) (.inl rfl)
      refine RegionOwn.quietG rfl rfl hK2 rfl rfl ?_
      clear hK2 hD hfr hO
      unfold RegionOwn.T at d4
      go_simp
    | 6, _ =>
      have d5 : RegionOwn.T y 12 = .pointer (some ⟨blk, 0, none⟩) := hD 5 12 (by decide) rfl (by kernel_rfl) (.inl rfl)
      refine RegionOwn.quietG rfl rfl hK2 rfl rfl ?_
      clear hK2 hD hfr hO
      unfold RegionOwn.T at d5
      go_simp
    | 7, _ =>
      have d6 : RegionOwn.T y 13 = .pointer (some ⟨blk, 1, none⟩) := hD 6 13 (by decide) rfl (by kernel_rfl) (.inl rfl)
      obtain ⟨c0, c1, c2⟩ := HC.out x' hbx
      refine RegionOwn.quietG rfl rfl hK2 rfl rfl ?_
      clear hK2 hD hfr hO
      unfold RegionOwn.T at d6
      go_simp
    | 8, _ =>
      have d7 : RegionOwn.T y 14 = .slice sa sure.length sc := hD 7 14 (by decide) rfl (by kernel_rfl) (.inl rfl)
      refine RegionOwn.calledG (f := 91) (args := #[.slice sa sure.length sc]) rfl rfl hK2 rfl ?_ ((HB.out x' hbx).mono fun e y' h => let ⟨v', g1, g2, g3⟩ := h; ⟨v', g1, g3, own_mono g2 hbx.size⟩)
      clear hK2 hD hfr hO
      unfold RegionOwn.T at d7
      go_simp
    | i + 9, h => exact absurd h (by omega)
  · intro y x' hfr hbx hD
    have d3 : RegionOwn.T y 10 = .bool st := hD 3 10 (by decide) rfl (fun _ _ h => by cases h)
    have d8 : Row w.heap.size x' (RegionOwn.T y 15) sure := hD 8 15 (by decide) rfl (fun _ _ h => by cases h)
    have e0 : RegionOwn.T y 0 = .pointer (some ⟨blk, 0, none⟩) := RegionOwn.Fr.at hfr (by kernel_rfl) rfl
    obtain ⟨va, vc, hv⟩ := Row.form d8
    have hl43 : List.range 43 = [0, 1, 2, 3, 4, 5, 6, 7, 8, 9, 10, 11, 12, 13, 14, 15, 16, 17, 18, 19, 20, 21, 22, 23, 24, 25, 26, 27, 28, 29, 30, 31, 32, 33, 34, 35, 36, 37, 38, 39, 40, 41, 42] := by decide
    have hdf : y.defers = [] := hfr.defers
    rw [RegionOwn.act_lit y 43 (hfr.size.trans rfl), hl43, hdf]
    simp only [List.map_cons, List.map_nil, List.drop_succ_cons, List.drop_zero, d3, e0, hv]
    rw [hv] at d8
    have H3 := hide (And.intro d8 hbx)
    clear d3 d8 hbx hD hfr e0 hv hl43 hdf
    obtain ⟨W, hW⟩ : ∃ W, W = x'.alloc (.cells #[.bool st, .slice va sure.length vc, .slice none 0 0] 118) := ⟨_, rfl⟩
    have kW : Below w.heap.size w W := by rw [hW]; exact H3.out.2.alloc H3.out.2.size _
    obtain ⟨-, -, c2⟩ := HC.out W kW
    have rW : W.heap[x'.heap.size]? = some (.cells #[.bool st, .slice va sure.length vc, .slice none 0 0] 118 (0, 0)) := by rw [hW]; exact heap_alloc_new _ _
    have oW : Row w.heap.size W (.slice va sure.length vc) sure := by rw [hW]; exact own_below H3.out.1 ((Below.refl _ _).alloc (Nat.le_refl _) _)
    have HW := hide (And.intro kW (And.intro rW oW))
    clear kW rW oW
    go_upto_region 2 with fail
    rw [← hW]
    clear hW
    go_wp2_with fail
    go_loop [23] (fun vi => vi = .int .i64 0) (fun _ => 0)
    case atStart => rfl
    case round =>
      subst hrel
      go_wp2_with fail
      go_ret
      refine ⟨⟨⟨name, sure, st, []⟩, x'.heap.size, .slice va sure.length vc, .slice none 0 0, []⟩, rfl, rfl, ⟨HW.out.2.1, H3.out.2.size, fun q hq => ?_, World.ownsRow_nil _ _ _ _, trivial, fun q hq _ => ?_⟩, fun b hb => ?_, HW.out.1⟩
      · obtain rfl : q = (.slice va sure.length vc, sure) := by simpa [WF.alls] using hq
        exact HW.out.2.2
      · obtain rfl : q = (.slice va sure.length vc, sure) := by simpa [WF.alls] using hq
        exact Nat.le_refl _
      · rcases hb with rfl | hb | ⟨q, hq, hb⟩
        · exact H3.out.2.size
        · cases hb
        · obtain rfl : q = (.slice va sure.length vc, sure) := by simpa [WF.alls] using hq
          exact ownsRow_ge HW.out.2.2 hb
theorem nilF (w : World) : (binOp .eql 48 (.slice none 0 0) (.slice none 0 0)).run Tryz.prog w = .ok (.bool true) w := by kernel_rfl
theorem someF (g c : Nat) (w : World) : (binOp .eql 48 (.slice (some ⟨g, 0, none⟩) 0 c) (.slice none 0 0)).run Tryz.prog w = .ok (.bool false) w := by kernel_rfl
set_option maxHeartbeats 1000000 in
theorem clonePlan_any (base : Nat) (v : Value) (w : World) (h : w.ownsRow base 34 3 v 0 []) :
    Calls Tryz.prog 54 #[v] w fun e w' => ∃ v', e = .returned v' ∧ w'.ownsRow w.heap.size 34 3 v' 0 [] ∧ Below w.heap.size w w' := by
  obtain ⟨i1, hj, hy0, hy1, hy2⟩ := info_parts infoF
  obtain ⟨_, ⟨rfl, h0⟩ | ⟨g, cap, cur, rfl, h1, h2, h3⟩⟩ := h
  · have hn := nilF
    go_enter Tryz.func54, Tryz.ntmps54
    go_wp2_with fail
    go_ret
    exact ⟨_, rfl, World.ownsRow_nil _ _ _ _, Below.refl _ _⟩
  · have hn := someF g cap
    have hb0 : Below w.heap.size w (w.alloc (.cells #[] 34)) := (Below.refl _ _).alloc (Nat.le_refl _) _
    have HO : Hid ((w.alloc (.cells #[] 34)).ownsRow w.heap.size 34 3 (.slice (some ⟨w.heap.size, 0, none⟩) 0 0) 0 []) := ⟨rfl, .inr ⟨w.heap.size, 0, #[], rfl, Nat.le_refl _, heap_alloc_new w _, Nat.le_refl _, Nat.zero_le _, rfl, rfl⟩⟩
    clear h1 h2 h3
    go_enter Tryz.func54, Tryz.ntmps54
    go_wp2_with fail
    go_ret
    exact ⟨_, rfl, HO.out, hb0⟩
end Go.Proofs.YtoineobjmllicaaGreatDoor
namespace Go.Dk
open Go.RowKit Go.Maps
theorem ins_between {F : WF} : ∀ {A B : List WF}, (∀ g ∈ A, bytesBefore g.nm F.nm = true) → (∀ g ∈ B, bytesBefore F.nm g.nm = true) → ins WF.nm F (A ++ B) = A ++ F :: B
  | [], [], _, _ => rfl
  | [], g :: B, _, h => by
    have hg := h g (List.mem_cons_self ..)
    show ins WF.nm F (g :: B) = _
    unfold ins
    rw [if_neg (by rw [before_asymm hg]; decide), if_neg (fun e => before_ne hg e.symm)]
    rfl
  | a :: A, B, h1, h2 => by
    show ins WF.nm F (a :: (A ++ B)) = _
    unfold ins
    rw [if_pos (h1 a (List.mem_cons_self ..)), ins_between (fun g hg => h1 g (List.mem_cons_of_mem _ hg)) h2]
    rfl
/-- The files that were come by. -/
def passed (left : Lit → Bool) (fs : List WF) : List WF := fs.filter fun F => !left (.string F.nm)
theorem passed_all {left : Lit → Bool} {fs : List WF} (h : ∀ k, left k = false) : passed left fs = fs := List.filter_eq_self.2 fun F _ => by rw [h]; rfl
theorem passed_start {fs : List WF} (h : Rises WF.nm fs) : passed (has (Dfs fs)) fs = [] := List.filter_eq_nil_iff.2 fun F hF => by
  rw [Dof_has, seek_mem h hF]
  simp
theorem passed_step {left : Lit → Bool} {F : WF} (hl : left (.string F.nm) = true) {fs : List WF} (h : Rises WF.nm fs) (hF : F ∈ fs) :
    passed (fun z => left z && !z.sameKey (.string F.nm)) fs = ins WF.nm F (passed left fs) ∧ (passed (fun z => left z && !z.sameKey (.string F.nm)) fs).length = (passed left fs).length + 1 := by
  obtain ⟨gs, rest, rfl⟩ := List.append_of_mem hF
  obtain ⟨h1, h2, h3⟩ := List.pairwise_append.1 h
  have hskip : ∀ l : List WF, (∀ G ∈ l, G.nm ≠ F.nm) → passed (fun z => left z && !z.sameKey (.string F.nm)) l = passed left l := fun l hl' => by
    unfold passed
    refine List.filter_congr fun G hG => ?_
    simp [same_str, hl' G hG]
  have s1 := hskip gs fun G hG => before_ne (h3 G hG F (by simp))
  have s2 := hskip rest fun G hG e => before_ne ((List.pairwise_cons.1 h2).1 G hG) e.symm
  have e1 : passed left (gs ++ F :: rest) = passed left gs ++ passed left rest := by unfold passed; rw [List.filter_append, List.filter_cons, if_neg (by simp [hl])]
  have e2 : passed (fun z => left z && !z.sameKey (.string F.nm)) (gs ++ F :: rest) = passed left gs ++ F :: passed left rest := by
    rw [← s1, ← s2]
    unfold passed
    rw [List.filter_append, List.filter_cons, if_pos (by simp [same_str])]
  rw [e1, e2]
  refine ⟨(ins_between (fun g hg => h3 g (List.mem_filter.1 hg).1 F (by simp)) (fun g hg => (List.pairwise_cons.1 h2).1 g (List.mem_filter.1 hg).1)).symm, by simp only [List.length_append, List.length_cons]; omega⟩
theorem passed_le (left : Lit → Bool) (fs : List WF) : (passed left fs).length ≤ fs.length := List.length_filter_le _ _
theorem FileAt.lower {B B' : Nat} {w : World} {F : WF} (h : FileAt B w F) (hle : B' ≤ B) : FileAt B' w F :=
  ⟨h.row, Nat.le_trans hle h.ge, fun q hq => Go.Wal.own_mono (h.all q hq) hle, Go.Wal.own_mono h.loose hle, h.story, h.safe⟩
/-- A disk that is being copied. -/
def WD.bare (S : WD) (mb : Nat) (pv : Value) : WD := ⟨{ S.a with files := [] }, S.rm, some mb, pv, []⟩
end Go.Dk
namespace Go.Proofs.YtoineobjmllicaaGreatDoor
open Go.RowKit Go.Dk Go.Wal Go.Maps
variable {M : Nat → Prop}
theorem makeHint (n : Int) (w : World) : (Instr.makeMap 65 (some (.int .i64 n))).run Tryz.prog w = .ok (.map (some w.heap.size)) (w.alloc (.map #[] 0)) := by
  simp [Instr.makeMap, run_underlying Tryz.underlying65, asInt, asIntOf, Result.andThen]
set_option maxRecDepth 100000 in
set_option maxHeartbeats 2000000 in
theorem cloneDisk_any (base K d : Nat) (S : WD) (w : World) (h : DiskAt Tryz.prog M base K d w S) (hp : ∀ F ∈ S.fs, F.a.puts = []) (hfall : S.a.fall = none) (hK : K + S.fs.length ≤ 5000) :
    Calls Tryz.prog 34 #[.pointer (some ⟨d, 0, none⟩)] w fun e w' => ∃ c T, e = .returned (.pointer (some ⟨c, 0, none⟩)) ∧ T.a = S.a ∧ DiskAt Tryz.prog (fun _ => True) w.heap.size (K + S.fs.length) c w' T ∧ Below w.heap.size w w' := by
  have hrow := h.row
  unfold drow at hrow
  obtain ⟨c0, c1, c2, c3, c4, c5, -⟩ := cells6 hrow
  have hpl := h.plan
  rw [hfall] at hpl
  obtain ⟨pa, pc, hpv⟩ : ∃ a c, S.pv = .slice a 0 c := by
    obtain ⟨_, ⟨h1, _⟩ | ⟨g, cap, cur, h1, _⟩⟩ := hpl
    · exact ⟨none, 0, h1⟩
    · exact ⟨_, _, h1⟩
  have HCP : Hid (∀ U, Below w.heap.size w U → Calls Tryz.prog 54 #[.slice pa 0 pc] U fun e w' => ∃ a k, e = .returned (.slice a 0 k) ∧ w'.ownsRow U.heap.size 34 3 (.slice a 0 k) 0 [] ∧ Below U.heap.size U w') := fun U hU => by
    rw [← hpv]
    refine (clonePlan_any base _ U (own_below hpl hU)).mono ?_
    rintro e w' ⟨v', rfl, h1, h2⟩
    obtain ⟨_, ⟨rfl, _⟩ | ⟨g, cap, cur, rfl, _⟩⟩ := id h1
    · exact ⟨_, _, rfl, h1, h2⟩
    · exact ⟨_, _, rfl, h1, h2⟩
  have hmk := makeHint
  rw [hpv] at c1
  have H0 := hide (And.intro h (And.intro hp (And.intro hfall hK)))
  clear h hp hfall hK hpl hrow
  go_enter Tryz.func34, Tryz.ntmps34
  go_upto_region 4 with fail
  obtain ⟨X, hX⟩ : ∃ X, X = w.heap.size := ⟨_, rfl⟩
  obtain ⟨W, hW⟩ : ∃ W, W = w.alloc (.cells #[.map S.mb, .slice pa 0 pc, .int .i64 S.a.changes, .bool (decide (0 ≤ S.a.room)), .int .i64 S.rm, .bool S.a.down] 67) := ⟨_, rfl⟩
  have kW : Below w.heap.size w W := by rw [hW]; exact (Below.refl _ _).alloc (Nat.le_refl _) _
  have rW : W.heap[X]? = some (.cells #[.map S.mb, .slice pa 0 pc, .int .i64 S.a.changes, .bool (decide (0 ≤ S.a.room)), .int .i64 S.rm, .bool S.a.down] 67 (0, 0)) := by rw [hW, hX]; exact heap_alloc_new _ _
  have HDC : Hid (∀ U, Below w.heap.size w U → U.cell? ⟨d, 0, none⟩ = some (.map S.mb) ∧ U.cell? ⟨d, 1, none⟩ = some (.slice pa 0 pc)) := fun U hU => by
    have hd := (H0.out.1.below hU).row
    unfold drow at hd
    rw [hpv] at hd
    obtain ⟨d0, d1, -⟩ := cells6 hd
    exact ⟨d0, d1⟩
  rw [← hW, ← hX]
  have HKR := hide (And.intro kW (And.intro rW hX))
  clear hW hX c0 c1 c2 c3 c4 c5 kW rW hpv
  obtain ⟨d0, d1⟩ := HDC.out W HKR.out.1
  go_upto_region 5 with (go_at_call 54; refine (HCP.out _ HKR.out.1).mono ?_; rintro e w2 ⟨a, k, rfl, hpv2, hb2⟩; have r2 := (hb2.block X (block_lt HKR.out.2.1)).trans HKR.out.2.1; obtain ⟨-, y1, -, -, -, -, f2⟩ := cells6 r2; have f21 := f2 1; have H2 := hide (And.intro hpv2 (And.intro hb2 r2)); clear hpv2 hb2 r2 f2)
  obtain ⟨w3, hw3⟩ : ∃ w3, w3 = w2.setCell ⟨X, 1, none⟩ (.slice a 0 k) := ⟨_, rfl⟩
  have k2 : Below w.heap.size w w2 := HKR.out.1.trans (H2.out.2.1.mono HKR.out.1.size)
  have k3 : Below w.heap.size w w3 := by rw [hw3]; exact k2.setCell (by rw [HKR.out.2.2]; exact Nat.le_refl _) _
  have r3 : w3.heap[X]? = some (.cells #[.map S.mb, .slice a 0 k, .int .i64 S.a.changes, .bool (decide (0 ≤ S.a.room)), .int .i64 S.rm, .bool S.a.down] 67 (0, 0)) := by rw [hw3, heap_setCell_same _ _ _ _ _ _ H2.out.2.2]; rfl
  have o3 : w3.ownsRow w.heap.size 34 3 (.slice a 0 k) 0 [] := by
    refine ownsRow_kept (own_mono H2.out.1 HKR.out.1.size) fun g hg => ?_
    obtain ⟨cur, hc⟩ := ownsRow_tag H2.out.1 hg
    rw [hw3]
    refine heap_setCell_other _ _ _ _ fun e => ?_
    rw [e, H2.out.2.2] at hc
    cases hc
  rw [← hw3]
  have H3 := hide (And.intro k3 (And.intro r3 o3))
  clear hw3 k2 k3 r3 o3 H2 y1 f21 d0 d1 HCP
  obtain ⟨d0, d1⟩ := HDC.out w3 H3.out.1
  obtain ⟨mb2, hmb2⟩ : ∃ m, m = w3.heap.size := ⟨_, rfl⟩
  have hXlt : X < w3.heap.size := block_lt H3.out.2.1
  obtain ⟨w4, hw4⟩ : ∃ w4, w4 = (w3.alloc (.map #[] 0)).setCell ⟨X, 0, none⟩ (.map (some mb2)) := ⟨_, rfl⟩
  have k34 : Below w.heap.size w (w3.alloc (.map #[] 0)) := H3.out.1.alloc H3.out.1.size _
  have k4 : Below w.heap.size w w4 := by rw [hw4]; exact k34.setCell (by rw [HKR.out.2.2]; exact Nat.le_refl _) _
  have r34 : (w3.alloc (.map #[] 0)).heap[X]? = some (.cells #[.map S.mb, .slice a 0 k, .int .i64 S.a.changes, .bool (decide (0 ≤ S.a.room)), .int .i64 S.rm, .bool S.a.down] 67 (0, 0)) := (Below.heap_alloc _ _ _ hXlt).trans H3.out.2.1
  have r4 : w4.heap[X]? = some (.cells #[.map (some mb2), .slice a 0 k, .int .i64 S.a.changes, .bool (decide (0 ≤ S.a.room)), .int .i64 S.rm, .bool S.a.down] 67 (0, 0)) := by rw [hw4, heap_setCell_same _ _ _ _ _ _ r34]; rfl
  have hm4 : w4.ownsMap Tryz.prog 9 Rp mb2 0 (.map []) := by
    obtain ⟨es, cl, q1, q2⟩ := World.ownsMap_made w3 Tryz.prog 9 Rp
    rw [← hmb2] at q1
    refine ⟨es, cl, ?_, q2⟩
    rw [hw4, heap_setCell_other _ _ _ _ (show mb2 ≠ X by omega)]
    exact q1
  have D4 : DiskAt Tryz.prog (fun _ => True) w.heap.size K X w4 (S.bare mb2 (.slice a 0 k)) := by
    refine ⟨r4, by rw [HKR.out.2.2]; exact Nat.le_refl _, H0.out.1.rm, ?_, .inr ⟨mb2, 0, rfl, by rw [hmb2]; exact H3.out.1.size, Nat.zero_le _, hm4⟩, FilesAt.nil _ _, rfl, (fun F hF => by cases hF), Nat.zero_le _, H0.out.1.chg, H0.out.1.lim, fun _ _ => trivial⟩
    show w4.ownsRow w.heap.size 34 3 (.slice a 0 k) (flen S.a.fall) (fcells S.a.fall)
    rw [H0.out.2.2.1]
    refine ownsRow_kept H3.out.2.2 fun g hg => ?_
    obtain ⟨cur, hc⟩ := ownsRow_tag H3.out.2.2 hg
    rw [hw4, heap_setCell_other _ _ _ _ (fun e => by rw [show g = X from e, H3.out.2.1] at hc; cases hc)]
    exact Below.heap_alloc _ _ _ (block_lt hc)
  have H4 := hide (And.intro k4 D4)
  obtain ⟨g34, -, -, -, -, -, fz⟩ := cells6 r34
  have fz0 := fz 0
  have HW4 := hide hw4
  have HMB := hide hmb2
  clear k34 k4 r34 r4 hm4 D4 hXlt fz hmb2 hw4
  rcases H0.out.1.map with ⟨hm, hn⟩ | ⟨b, n, hm, hb, hnK, hown⟩
  · rw [hm] at d0
    have HN := hide hn
    go_upto_region 6 with fail
    rw [← HMB.out, ← HW4.out]
    obtain ⟨e0, -⟩ := HDC.out w4 H4.out.1
    rw [hm] at e0
    have hrg := run_range_nilMap (P := Tryz.prog) w4 65 9 79 Tryz.underlying65
    have hnx : ∀ ty, (Instr.next (.pointer (some ⟨w4.heap.size, 0, none⟩)) false ty).run Tryz.prog (w4.alloc (.mapIter none 0 #[] 0)) = _ := fun ty => run_next_nilMap w4 ty 0 0 #[]
    clear d0 d1 g34 fz0 hm hn
    go_wp2_with fail
    refine wp_loop_rounds 1 ?_
    rw [rounds_succ]
    go_wp2
    go_ret
    refine ⟨X, _, rfl, ?_, by rw [HN.out]; exact H4.out.2.below ((Below.refl _ _).alloc (Nat.le_refl _) _), H4.out.1.alloc H4.out.1.size _⟩
    have hsm := H0.out.1.same
    rw [HN.out] at hsm
    unfold WD.bare
    obtain ⟨⟨fl, r1, r2, r3, r4⟩, _, _, _, _⟩ := S
    dsimp only at hsm ⊢
    rw [← hsm]
    rfl
  · rw [hm] at d0
    have hlen := fun ty => World.ownsMap.len (w := w3) (b := b) (n := n) (D := Dfs S.fs) (k := 9) (R := Rp) (P := Tryz.prog) (t := 65) (e := 79) (by
      obtain ⟨es, cl, q1, q2⟩ := hown
      exact ⟨es, cl, (H3.out.1.block b (block_lt q1)).trans q1, q2⟩) Tryz.underlying65 ty
    go_upto_region 6 with fail
    rw [← HMB.out, ← HW4.out]
    obtain ⟨e0, -⟩ := HDC.out w4 H4.out.1
    rw [hm] at e0
    have hown4 : w4.ownsMap Tryz.prog 9 Rp b n (Dfs S.fs) := by
      obtain ⟨es, cl, q1, q2⟩ := hown
      exact ⟨es, cl, (H4.out.1.block b (block_lt q1)).trans q1, q2⟩
    have hbw : b < w.heap.size := hown.lt
    have HR : Hid (Rises WF.nm S.fs) := H0.out.1.files.rises
    have HMW : Hid (w.heap.size ≤ mb2 ∧ w.heap.size ≤ w4.heap.size ∧ mb2 < w4.heap.size) := by
      refine ⟨by rw [HMB.out]; exact H3.out.1.size, H4.out.1.size, ?_⟩
      rw [HW4.out, World.size_setCell, World.size_alloc, HMB.out]
      exact Nat.lt_succ_self _
    clear d0 d1 g34 fz0 hm hlen hown hb hnK HW4 HMB H3
    go_wp2_with (first
      | (at_range; refine wpList_range_own _ rfl _ 65 rfl 9 79 law9 Tryz.underlying65 _ b n _ rfl hown4 ?_; intro w0 hrg0 hg0 hs0)
      | go_in)
    go_frame
    go_loopw [4, 5] (fun _ _ wr => ∃ (left : Lit → Bool) (cnt : Nat) (gs : List WF), Hid (wr.ranges Tryz.prog 9 Rp b w4.heap.size n (Dfs S.fs) left cnt ∧ DiskAt Tryz.prog (fun _ => True) w.heap.size (K + gs.length) X wr ((S.bare mb2 (.slice a 0 k)).withF gs) ∧ gs.map WF.a = (passed left S.fs).map WF.a ∧ Below w.heap.size w wr)) (fun _ _ wr => wr.rangeLeft b w4.heap.size)
    case atStart => exact ⟨_, _, [], hrg0, H4.out.2.below (Below.of_grown_none hg0), by rw [passed_start HR.out], H4.out.1.trans ((Below.of_grown_none hg0).mono H4.out.1.size)⟩
    case round =>
      obtain ⟨left, cnt, gs, HG⟩ := hrel
      clear hrg0 hg0 hs0 hown4 e0 hmk
      go_wp2_with (first
        | (at_next; refine wpList_next_ranges _ rfl _ rfl 9 law9 Rp encStr fptr inv9 invP b w4.heap.size n _ left cnt rfl HG.out.1 ?_ ?_)
        | go_in)
      · intro _ hl0
        go_wp2
        go_ret
        have hfa : gs.map WF.a = S.a.files := by rw [HG.out.2.2.1, passed_all hl0]; exact H0.out.1.same
        have hgl : gs.length = S.fs.length := by
          have := congrArg List.length HG.out.2.2.1
          rw [passed_all hl0, List.length_map, List.length_map] at this
          exact this
        refine ⟨X, _, rfl, ?_, by rw [← hgl]; exact HG.out.2.1, HG.out.2.2.2⟩
        show ({ S.a with files := gs.map WF.a } : A) = S.a
        rw [hfa]
      · intro x c kl y1 y2 w1 cnt1 hkey hlk hv hat hrg1 hlt hg1 hs1 hen
        obtain ⟨F, hF, rfl, rfl⟩ := comes_up Tryz.underlying9 hkey hv hat
        obtain ⟨hst1, hst2⟩ := passed_step hlk HR.out hF
        have hb1 : Below w.heap.size w w1 := HG.out.2.2.2.grown hg1 HG.out.2.2.2.size fun j e => by cases e; exact HMW.out.2.1
        have hD1 : DiskAt Tryz.prog (fun _ => True) w.heap.size (K + gs.length) X w1 ((S.bare mb2 (.slice a 0 k)).withF gs) := HG.out.2.1.other (X := (· = w4.heap.size)) (.of_grown hg1 fun c e => by cases e; rfl) fun c e hmine => by
          subst e
          obtain ⟨_, o, ho, hk⟩ := hmine
          obtain ⟨es, cl, si, se, c0, _, _, _, _, hit, _⟩ := HG.out.1
          rw [hit] at ho
          cases ho
          exact hk
        have hsm := H0.out.1.small F hF
        have HCF : Hid (∀ U, Below w1.heap.size w1 U → Calls Tryz.prog 64 #[.pointer (some ⟨F.blk, 0, none⟩)] U fun e w' => ∃ F' : WF, e = .returned (fptr F'.blk) ∧ F'.a = F.a ∧ FileAt U.heap.size w' F' ∧ (∀ b, F'.foot b → U.heap.size ≤ b) ∧ Below U.heap.size U w') := fun U hU =>
          cloneFile_any base F U ((H0.out.1.below (hb1.trans (hU.mono hb1.size))).files.files F hF) (H0.out.2.1 F hF) (by
            have h1 := hsm.lens 0
            have h2 := H0.out.1.lim
            have h3 : (F.a.after 0).length = F.a.sure.length := rfl
            omega)
        have HX0 : Hid (∀ U, Below w1.heap.size w1 U → U.cell? ⟨X, 0, none⟩ = some (.map (some mb2))) := fun U hU => by
          have hd := (hD1.below hU).row
          unfold drow at hd
          exact (cells6 hd).1
        have HB1 := hide hb1
        have HN1 := hide (And.intro hD1 (And.intro hrg1 (And.intro hst1 (And.intro hst2 (And.intro hlk (And.intro hF hsm))))))
        have HLE := hide (HG.out.1.left_eq)
        have HLT := hide hlt
        have HKEY := hide hkey
        obtain ⟨B, hB⟩ : ∃ B, F.blk = B := ⟨_, rfl⟩
        simp only [fptr] at hen
        rw [hB] at HCF hen
        clear hkey hv hat hg1 hs1 hrg1 hlt hlk hD1 hb1 hst1 hst2 hF hsm hB
        go_upto_region 9 with fail
        refine RegionOwn.regionK 5 39 9 1 (fun i => match i with
          | 0 => RegionOwn.val (.pointer (some ⟨X, 0, none⟩))
          | 1 => RegionOwn.val (.map (some mb2))
          | 2 => RegionOwn.val (encStr x)
          | 3 => RegionOwn.val (.pointer (some ⟨B, 0, none⟩))
          | 4 => RegionOwn.fact (fun x v => ∃ F' : WF, v = fptr F'.blk ∧ F'.a = F.a ∧ FileAt w.heap.size x F' ∧ (∀ b, F'.foot b → w1.heap.size ≤ b) )
          | _ => RegionOwn.val undef) (fun _ => none) ?_ (by kernel_rfl) rfl (by kernel_rfl) ?_ ?_ ?_
        · intro i hi
          match i, hi with
          | 0, _ | 1, _ | 2, _ | 3, _ | 4, _ => rfl
          | i + 5, h => exact absurd h (by omega)
        · intro i p hi h
          refine ⟨fun _ _ => rfl, ?_⟩
          match i, hi, h with
          | 0, _, h | 1, _, h | 2, _, h | 3, _, h => cases h
          | 4, _, h => cases h; exact fun x y v ⟨F', g1, g2, g3, g4⟩ hb => ⟨F', g1, g2, g3.kept fun b hb' => hb.block b (g3.foot_lt hb'), g4⟩
          | i + 5, h, _ => exact absurd h (by omega)
        · intro i hi y x' hfr hbx hD hO K2 hK2
          match i, hi with
          | 0, _ =>
            have e3 : RegionOwn.T y 3 = .pointer (some ⟨X, 0, none⟩) := RegionOwn.Fr.at hfr (by kernel_rfl) rfl
            refine RegionOwn.quietG rfl rfl hK2 rfl rfl ?_
            clear hK2 hD hfr hO
            unfold RegionOwn.T at e3
            go_simp
          | 1, _ =>
            have d0 : RegionOwn.T y 34 = .pointer (some ⟨X, 0, none⟩) := hD 0 34 (by decide) rfl (by kernel_rfl) (.inl rfl)
            have c0 := HX0.out x' hbx
            refine RegionOwn.quietG rfl rfl hK2 rfl rfl ?_
            clear hK2 hD hfr hO
            unfold RegionOwn.T at d0
            go_simp
          | 2, _ =>
            have e4 : RegionOwn.T y 4 = encStr x := RegionOwn.Fr.at hfr (by kernel_rfl) rfl
            refine RegionOwn.quietG rfl rfl hK2 rfl rfl ?_
            clear hK2 hD hfr hO
            unfold RegionOwn.T at e4
            go_simp
          | 3, _ =>
            have e5 : RegionOwn.T y 5 = .pointer (some ⟨B, 0, none⟩) := RegionOwn.Fr.at hfr (by kernel_rfl) rfl
            refine RegionOwn.quietG rfl rfl hK2 rfl rfl ?_
            clear hK2 hD hfr hO
            unfold RegionOwn.T at e5
            go_simp
          | 4, _ =>
            have d3 : RegionOwn.T y 37 = .pointer (some ⟨B, 0, none⟩) := hD 3 37 (by decide) rfl (by kernel_rfl) (.inl rfl)
            refine RegionOwn.calledG (f := 64) (args := #[.pointer (some ⟨B, 0, none⟩)]) rfl rfl hK2 rfl ?_ ((HCF.out x' hbx).mono fun e y' h => let ⟨F', g1, g2, g3, g4, g5⟩ := h; ⟨_, g1, g5, F', rfl, g2, g3.lower (Nat.le_trans HB1.out.size hbx.size), fun b hb => Nat.le_trans hbx.size (g4 b hb)⟩)
            clear hK2 hD hfr hO
            unfold RegionOwn.T at d3
            go_simp
          | i + 5, h => exact absurd h (by omega)
        · intro y x' hfr hbx hD
          have d1 : RegionOwn.T y 35 = .map (some mb2) := hD 1 35 (by decide) rfl (fun _ _ h => by cases h)
          have d2 : RegionOwn.T y 36 = encStr x := hD 2 36 (by decide) rfl (fun _ _ h => by cases h)
          obtain ⟨G, dG, hGa, hGF, hGf⟩ : ∃ F' : WF, RegionOwn.T y 38 = fptr F'.blk ∧ F'.a = F.a ∧ FileAt w.heap.size x' F' ∧ (∀ b, F'.foot b → w1.heap.size ≤ b) := hD 4 38 (by decide) rfl (fun _ _ h => by cases h)
          have e0 : RegionOwn.T y 0 = _ := RegionOwn.Fr.at hfr (by kernel_rfl) rfl
          have e1 : RegionOwn.T y 1 = _ := RegionOwn.Fr.at hfr (by kernel_rfl) rfl
          have e2 : RegionOwn.T y 2 = _ := RegionOwn.Fr.at hfr (by kernel_rfl) rfl
          have e3 : RegionOwn.T y 3 = _ := RegionOwn.Fr.at hfr (by kernel_rfl) rfl
          have e4 : RegionOwn.T y 4 = _ := RegionOwn.Fr.at hfr (by kernel_rfl) rfl
          have e5 : RegionOwn.T y 5 = _ := RegionOwn.Fr.at hfr (by kernel_rfl) rfl
          have e6 : RegionOwn.T y 6 = _ := RegionOwn.Fr.at hfr (by kernel_rfl) rfl
          have e7 : RegionOwn.T y 7 = _ := RegionOwn.Fr.at hfr (by kernel_rfl) rfl
          have e8 : RegionOwn.T y 8 = _ := RegionOwn.Fr.at hfr (by kernel_rfl) rfl
          have e9 : RegionOwn.T y 9 = _ := RegionOwn.Fr.at hfr (by kernel_rfl) rfl
          have e10 : RegionOwn.T y 10 = _ := RegionOwn.Fr.at hfr (by kernel_rfl) rfl
          have e11 : RegionOwn.T y 11 = _ := RegionOwn.Fr.at hfr (by kernel_rfl) rfl
          have e12 : RegionOwn.T y 12 = _ := RegionOwn.Fr.at hfr (by kernel_rfl) rfl
          have e13 : RegionOwn.T y 13 = _ := RegionOwn.Fr.at hfr (by kernel_rfl) rfl
          have e14 : RegionOwn.T y 14 = _ := RegionOwn.Fr.at hfr (by kernel_rfl) rfl
          have e15 : RegionOwn.T y 15 = _ := RegionOwn.Fr.at hfr (by kernel_rfl) rfl
          have e16 : RegionOwn.T y 16 = _ := RegionOwn.Fr.at hfr (by kernel_rfl) rfl
          have e17 : RegionOwn.T y 17 = _ := RegionOwn.Fr.at hfr (by kernel_rfl) rfl
          have e18 : RegionOwn.T y 18 = _ := RegionOwn.Fr.at hfr (by kernel_rfl) rfl
          have e19 : RegionOwn.T y 19 = _ := RegionOwn.Fr.at hfr (by kernel_rfl) rfl
          have e20 : RegionOwn.T y 20 = _ := RegionOwn.Fr.at hfr (by kernel_rfl) rfl
          have e21 : RegionOwn.T y 21 = _ := RegionOwn.Fr.at hfr (by kernel_rfl) rfl
          have e22 : RegionOwn.T y 22 = _ := RegionOwn.Fr.at hfr (by kernel_rfl) rfl
          have e23 : RegionOwn.T y 23 = _ := RegionOwn.Fr.at hfr (by kernel_rfl) rfl
          have e24 : RegionOwn.T y 24 = _ := RegionOwn.Fr.at hfr (by kernel_rfl) rfl
          have e25 : RegionOwn.T y 25 = _ := RegionOwn.Fr.at hfr (by kernel_rfl) rfl
          have e26 : RegionOwn.T y 26 = _ := RegionOwn.Fr.at hfr (by kernel_rfl) rfl
          have e27 : RegionOwn.T y 27 = _ := RegionOwn.Fr.at hfr (by kernel_rfl) rfl
          have e28 : RegionOwn.T y 28 = _ := RegionOwn.Fr.at hfr (by kernel_rfl) rfl
          have e29 : RegionOwn.T y 29 = _ := RegionOwn.Fr.at hfr (by kernel_rfl) rfl
          have e30 : RegionOwn.T y 30 = _ := RegionOwn.Fr.at hfr (by kernel_rfl) rfl
          have e31 : RegionOwn.T y 31 = _ := RegionOwn.Fr.at hfr (by kernel_rfl) rfl
          have e32 : RegionOwn.T y 32 = _ := RegionOwn.Fr.at hfr (by kernel_rfl) rfl
          have e33 : RegionOwn.T y 33 = _ := RegionOwn.Fr.at hfr (by kernel_rfl) rfl
          have hl39 : List.range 39 = [0, 1, 2, 3, 4, 5, 6, 7, 8, 9, 10, 11, 12, 13, 14, 15, 16, 17, 18, 19, 20, 21, 22, 23, 24, 25, 26, 27, 28, 29, 30, 31, 32, 33, 34, 35, 36, 37, 38] := by decide
          have hdf : y.defers = [] := hfr.defers
          rw [RegionOwn.act_lit y 39 (hfr.size.trans rfl), hl39, hdf]
          simp only [List.map_cons, List.map_nil, List.drop_succ_cons, List.drop_zero, d1, d2, dG, e0, e1, e2, e3, e4, e5, e6, e7, e8, e9, e10, e11, e12, e13, e14, e15, e16, e17, e18, e19, e20, e21, e22, e23, e24, e25, e26, e27, e28, e29, e30, e31, e32, e33]
          simp only [RegionOwn.T, Array.getD_eq_getD_getElem?, List.getElem?_toArray, List.getElem?_cons_succ, List.getElem?_cons_zero, Option.getD_some]
          have hDx := HN1.out.1.below hbx
          obtain ⟨n2, hn2, hownx⟩ : ∃ n2, n2 ≤ K + gs.length ∧ x'.ownsMap Tryz.prog 9 Rp mb2 n2 (Dfs gs) := by
            rcases hDx.map with ⟨q, _⟩ | ⟨b', n', q, _, q3, q4⟩
            · cases q
            · cases q
              exact ⟨n', q3, q4⟩
          have HX := hide (And.intro hGa (And.intro hGF (And.intro hGf (And.intro hbx hDx))))
          have hn2' : n2 + 1 ≤ maxLen := by have h1 := H0.out.1.lim; have h2 := hDx.lim; unfold maxLen; omega
          clear hfr hD d1 d2 dG hl39 hdf hGa hGF hGf hbx hDx hen e0 e1 e2 e3 e4 e5 e6 e7 e8 e9 e10 e11 e12 e13 e14 e15 e16 e17 e18 e19 e20 e21 e22 e23 e24 e25 e26 e27 e28 e29 e30 e31 e32 e33
          unfold fptr
          go_wp2_with (first
            | (at_mapUpdate; refine wpList_mapUpdate_in _ rfl _ _ _ 65 rfl 9 79 law9 Tryz.underlying65 _ mb2 n2 _ rfl hownx (by omega) _ _ _ rfl rfl HKEY.out _ [] (Rp_mk G.blk) ?_; intro w2 hown2 hturn2)
            | go_in)
          have tt : Tch (· = mb2) x' w2 := .turned hturn2 rfl
          have hGnm : G.nm = F.nm := congrArg AF.name HX.out.1
          have hmap : (ins WF.nm G gs).map WF.a = (passed (fun z => left z && !z.sameKey (.string F.nm)) S.fs).map WF.a := by
            rw [HN1.out.2.2.1, map_ins (na := WF.nm) (nb := AF.name) WF.a (fun _ => rfl), map_ins (na := WF.nm) (nb := AF.name) WF.a (fun _ => rfl), HG.out.2.2.1, HX.out.1]
          have hl1 : gs.length = (passed left S.fs).length := by
            have := congrArg List.length HG.out.2.2.1
            rw [List.length_map, List.length_map] at this
            exact this
          have hl2 : (ins WF.nm G gs).length = gs.length + 1 := by
            have := congrArg List.length hmap
            rw [List.length_map, List.length_map, HN1.out.2.2.2.1] at this
            omega
          have hl3 := passed_le (fun z => left z && !z.sameKey (.string F.nm)) S.fs
          have hl4 := HN1.out.2.2.2.1
          have hl5 := H0.out.2.2.2
          obtain ⟨k1, k2⟩ := HX.out.2.2.2.2.stored (F := G) (F' := G) HX.out.2.1 (fun G' hG' _ b h1 h2 => absurd ((HN1.out.1.files.files G' hG').foot_lt h1) (Nat.not_lt.2 (HX.out.2.2.1 b h2))) (Tch.refl _ _) HX.out.2.1 (fun b hb => .inl hb) rfl hn2 (by rw [hGnm]; exact hown2) hturn2 (by rw [HX.out.1]; exact HN1.out.2.2.2.2.2.2.mono (by omega)) (by omega)
          have hbx : Below w.heap.size w x' := HB1.out.trans (HX.out.2.2.2.1.mono HB1.out.size)
          have hr2 : w2.ranges Tryz.prog 9 Rp b w4.heap.size n (Dfs S.fs) (fun z => left z && !z.sameKey (.string F.nm)) cnt1 := by
            have hr1 := HN1.out.2.1.kept (row := none) (grown_of HX.out.2.2.2.1) (by simp) (by simp)
            have h1 := HMW.out
            exact hr1.kept (row := some mb2) ⟨tt.os, tt.tape, tt.output, tt.size, fun c hc hx => tt.block c hc fun e => hx (by rw [e])⟩ (by simp; omega) (by simp; omega)
          refine ⟨⟨_, _, _, _, _, _, _, _, _, _, _, _, ⟨_, cnt1, ins WF.nm G gs, hr2, ?_, hmap, hbx.trans (k2.below hbx.size)⟩, rfl⟩, ?_⟩
          · rw [hl2]
            exact k1
          · rw [hr2.left_eq, HLE.out]
            exact HLT.out
end Go.Proofs.YtoineobjmllicaaGreatDoor
