/- Contracts: a file's digest; the share of a file's chunk. -/
import Derived.Test.YtoopaeahhbkncaaDoorMerkleOf
import Derived.Test.YtoopaeahhbkncaaDoorMerkleAt
import Derived.Test.YtoopaeahhbkncaaDoorMerkleBeside
import Derived.Test.YtoopaeahhbkncaaDoorMerkleProve
import Derived.Test.YtoopaeahhbkncaaDoorRegions
import Derived.Laws.CopyOwn
namespace Go.Proofs.YtoopaeahhbkncaaDoor
open Go.RowKit Go.Shelf Go.Wire Go.Mk Go.Chunk
attribute [local go_sem] Oper.semAt_some
theorem file_any (size : Nat) (xs : List ByteArray) (v : Value) (w : World) (hsz : size ≤ 100000) (hr : StrRow.Reads w v xs) (hn : xs.length ≤ 256) (hx : ∀ s ∈ xs, s.size = 32) (hst : Steps w) :
    Calls Tryd.prog 15 #[.agg #[.int .i64 size, v]] w fun e w' => e = .returned (.string (named size xs.length (root xs))) ∧ Below w.heap.size w w' := by
  obtain ⟨a, c, rfl⟩ := hr.form
  have hbw : Below w.heap.size w (w.alloc (.cells #[.int .i64 size, .slice a xs.length c] 26)) := (Below.refl _ w).alloc (Nat.le_refl _) _
  have hrow : (w.alloc (.cells #[.int .i64 size, .slice a xs.length c] 26)).heap[w.heap.size]? = some (.cells #[.int .i64 size, .slice a xs.length c] 26 (0, 0)) := heap_alloc_new _ _
  have hz := root_size xs hx
  have HR := hide (fun (w' : World) (h : Below w.heap.size w w') => root_any xs _ w' (hr.below h (Nat.le_refl _)) hn hx (hst.kept h))
  have HF := hide (fun (w' : World) (h : Below w.heap.size w w') => fileOf_any size xs.length (root xs) w' hsz (by omega) (by omega) (hst.kept h))
  clear hr hst hx
  generalize root xs = R at *
  go_enter Tryd.func15, Tryd.ntmps15
  go_upto_region 1 with fail
  generalize w.alloc (.cells #[.int .i64 size, .slice a xs.length c] 26) = W at *
  have c0 : W.cell? ⟨w.heap.size, 0, none⟩ = some (.int .i64 size) := by rw [cell_of_row _ _ _ _ _ _ hrow]; rfl
  have c1 : W.cell? ⟨w.heap.size, 1, none⟩ = some (.slice a xs.length c) := by rw [cell_of_row _ _ _ _ _ _ hrow]; rfl
  have r0 := cell_regrown c0
  have r1 := cell_regrown c1
  have HB := hide hbw
  clear hbw hrow
  refine QuietCalls.region (by kernel_rfl) (by kernel_rfl) ?_
  iterate 7 first | go_big_quiet_step (fail) | quiet_step (fail)
  refine QuietCalls.call1 rfl rfl Tryd.call13 (fun w' h => HR.out w' (HB.out.trans (h.mono HB.out.size))) rfl ?_; simp only [Act.put, List.setIfInBounds_toArray, List.set_cons_succ, List.set_cons_zero]
  refine QuietCalls.call3 rfl rfl Tryd.call45 (fun w' h => HF.out w' (HB.out.trans (h.mono HB.out.size))) rfl rfl rfl ?_; simp only [Act.put, List.setIfInBounds_toArray, List.set_cons_succ, List.set_cons_zero]
  refine QuietCalls.assign rfl rfl rfl ?_; simp only [Act.put, List.setIfInBounds_toArray, List.set_cons_succ, List.set_cons_zero]
  refine wpQuiet_nil ?_
  intro w2 hb2
  have HB2 := hide (HB.out.trans (hb2.mono HB.out.size))
  clear hb2 r0 r1
  go_wp2_with fail
  go_ret
  exact ⟨rfl, HB2.out⟩
theorem _root_.Go.Mk.Bx.both {w : World} {g : Nat} {cs : Array Value} {T : TypeId} {W : World} (h : Bx w g cs T W) (o : Obj) : Bx w g cs T (W.alloc o) := h.step ((Below.refl _ W).alloc (Nat.le_refl _) o)
set_option maxHeartbeats 2000000 in
set_option maxRecDepth 100000 in
theorem show_own (s : ByteArray) (k : Nat) (t : ByteArray) (w : World) (hs : s.size ≤ 8192) (hn : (texts s).length ≤ 256) (ht : (texts s)[k]? = some t) (hst : Steps w) :
    Calls Tryd.prog 38 #[.string s, .int .i64 k] w fun e w' => ∃ pv, e = .returned (.tuple #[Sh.v ⟨named s.size (texts s).length (root ((texts s).map digest)), s.size, (texts s).length, k, t, path ((texts s).map digest) k⟩ pv, .int .i64 0]) ∧ StrRow.Reads w' pv (path ((texts s).map digest) k) ∧ RegionOwn.Holds w' pv 1 (path ((texts s).map digest) k).length ((path ((texts s).map digest) k).map Value.string) ∧ Below w.heap.size w w' := by
  have hkl : k < (texts s).length := (List.getElem?_eq_some_iff.1 ht).1
  have HO := hide (fun (w' : World) (h : Below w.heap.size w w') => of_any s w' hs (hst.kept h))
  have hdl : ((texts s).map digest).length = (texts s).length := List.length_map _
  have hd32 : ∀ x ∈ (texts s).map digest, x.size = 32 := fun x hx => by obtain ⟨y, _, rfl⟩ := List.mem_map.1 hx; exact digest_size y
  have HF := hide (fun (v : Value) (w' : World) (h : Below w.heap.size w w') (hr : StrRow.Reads w' v ((texts s).map digest)) => file_any s.size ((texts s).map digest) v w' (by omega) hr (by omega) hd32 (hst.kept h))
  have HC := hide (fun (w' : World) => chunkAt_any s k t w' hs ht)
  have HB := hide (fun (v : Value) (w' : World) (h : Below w.heap.size w w') (hr : StrRow.Reads w' v ((texts s).map digest)) => beside_any ((texts s).map digest) k v w' hr (by omega) (.inl (by omega)) hd32 (hst.kept h))
  rw [hdl] at HF
  have HM : Hid ((texts s).map (fun x => Value.string (digest x)) = ((texts s).map digest).map Value.string) := by show _ = _; rw [List.map_map]; rfl
  clear hst ht hd32
  dsimp only [Sh.v]
  generalize named s.size (texts s).length (root ((texts s).map digest)) = DG at *
  generalize path ((texts s).map digest) k = PA at *
  generalize (texts s).length = n at *
  have h1 : ¬ ((k : Int) < 0) := by omega
  have h2 : (k : Int) < n := by omega
  go_enter Tryd.func38, Tryd.ntmps38
  go_upto_region 1 with fail
  have I := hide (Bx.new w #[.string ⟨#[]⟩, .int .i64 0, .int .i64 0, .int .i64 0, .string ⟨#[]⟩, .slice none 0 0] 45)
  generalize w.alloc (.cells #[.string ⟨#[]⟩, .int .i64 0, .int .i64 0, .int .i64 0, .string ⟨#[]⟩, .slice none 0 0] 45) = W0 at *
  have h3 : (n : Int) ≤ 256 := by omega
  go_wp2_with (go_at_call 9; refine (HO.out _ I.out.below).mono ?_; rintro e w2 ⟨v, rfl, hown, hb⟩; obtain ⟨va, vc, rfl⟩ := own_slice hown; replace I := hide (I.out.step hb); have HR := hide (StrRow.Reads.of_own (show w2.ownsRow W0.heap.size 9 1 (.slice va n vc) n (((texts s).map digest).map Value.string) from (by rw [← HM.out]; exact hown))); clear hown hb)
  have J : Bx w w2.heap.size #[.int .i64 s.size, .slice va n vc] 26 (w2.alloc (.cells #[.int .i64 s.size, .slice va n vc] 26)) := ⟨heap_alloc_new _ _, I.out.below.alloc I.out.below.size _⟩
  replace I := hide (I.out.both (.cells #[.int .i64 s.size, .slice va n vc] 26))
  replace HR := hide (HR.out.below ((Below.refl _ w2).alloc (Nat.le_refl _) (.cells #[.int .i64 s.size, .slice va n vc] 26)) (Nat.le_refl _))
  have HBW := hide J.below
  have hJl : w2.heap.size < (w2.alloc (.cells #[.int .i64 s.size, .slice va n vc] 26)).heap.size := by simp
  have HJ := hide J.row
  clear J HO HM
  revert I HR HBW hJl HJ
  generalize w2.alloc (.cells #[.int .i64 s.size, .slice va n vc] 26) = W
  intro I HR HBW hJl HJ
  generalize w2.heap.size = B at *
  have HC0 : Hid (∀ U, Below W.heap.size W U → U.cell? ⟨B, 0, none⟩ = some (.int .i64 s.size)) := fun U h => by rw [h.cell (p := ⟨B, 0, none⟩) hJl, cell_of_row _ _ _ _ _ _ HJ.out]; rfl
  have HC1 : Hid (∀ U, Below W.heap.size W U → U.cell? ⟨B, 1, none⟩ = some (.slice va n vc)) := fun U h => by rw [h.cell (p := ⟨B, 1, none⟩) hJl, cell_of_row _ _ _ _ _ _ HJ.out]; rfl
  refine RegionOwn.regionK 15 43 9 1 (fun i => match i with
    | 0 => RegionOwn.val (.agg #[.int .i64 s.size, .slice va n vc])
    | 1 => RegionOwn.val (.string DG)
    | 2 => RegionOwn.val (.pointer (some ⟨B, 0, none⟩))
    | 3 => RegionOwn.val (.int .i64 s.size)
    | 4 => RegionOwn.val (.pointer (some ⟨B, 1, none⟩))
    | 5 => RegionOwn.val (.slice va n vc)
    | 6 => RegionOwn.val (.int .i64 n)
    | 7 => RegionOwn.val (.int .i64 k)
    | 8 => RegionOwn.val (.string s)
    | 9 => RegionOwn.val (.int .i64 k)
    | 10 => RegionOwn.val (.string t)
    | 11 => RegionOwn.val (.pointer (some ⟨B, 1, none⟩))
    | 12 => RegionOwn.val (.slice va n vc)
    | 13 => RegionOwn.val (.int .i64 k)
    | 14 => RegionOwn.fact (fun x v => ∃ base, W.heap.size ≤ base ∧ x.ownsRow base 9 1 v PA.length (PA.map Value.string))
    | _ => RegionOwn.val undef) (fun _ => none) ?_ (by kernel_rfl) rfl (by kernel_rfl) ?_ ?_ ?_
  · intro i hi
    match i, hi with
    | 0, _ | 1, _ | 2, _ | 3, _ | 4, _ | 5, _ | 6, _ | 7, _ | 8, _ | 9, _ | 10, _ | 11, _ | 12, _ | 13, _ | 14, _ => rfl
    | i + 15, h => exact absurd h (by omega)
  · intro i p hi h
    refine ⟨fun _ _ => rfl, ?_⟩
    match i, hi, h with
    | 0, _, h | 1, _, h | 2, _, h | 3, _, h | 4, _, h | 5, _, h | 6, _, h | 7, _, h | 8, _, h | 9, _, h | 10, _, h | 11, _, h | 12, _, h | 13, _, h => cases h
    | 14, _, h => cases h; exact fun x y v ⟨base, h1, h2⟩ hb => ⟨base, h1, own_below h2 hb⟩
    | i + 15, h, _ => exact absurd h (by omega)
  · intro i hi y x' hfr hbx hD hO K2 hK2
    match i, hi with
    | 0, _ =>
      refine RegionOwn.quiet rfl rfl hK2 rfl rfl ?_
      have e6 : RegionOwn.T y 6 = .pointer (some ⟨B, 0, none⟩) := RegionOwn.Fr.at hfr (by kernel_rfl) rfl
      have c0 := HC0.out x' hbx
      have c1 := HC1.out x' hbx
      clear hK2 hD hfr hO
      unfold RegionOwn.T at e6
      go_simp
    | 1, _ =>
      have d0 : RegionOwn.T y 27 = .agg #[.int .i64 s.size, .slice va n vc] := hD 0 27 (by decide) rfl (by kernel_rfl) (.inl rfl)
      refine RegionOwn.called (f := 15) (args := #[.agg #[.int .i64 s.size, .slice va n vc]]) rfl rfl hK2 rfl ?_ ((HF.out _ x' (HBW.out.trans (hbx.mono HBW.out.size)) (HR.out.below hbx (Nat.le_refl _))).mono fun e y' h => ⟨_, h.1, h.2, rfl⟩)
      clear hK2 hD hfr hO
      unfold RegionOwn.T at d0
      go_simp
    | 2, _ =>
      refine RegionOwn.quiet rfl rfl hK2 rfl rfl ?_
      have e6 : RegionOwn.T y 6 = .pointer (some ⟨B, 0, none⟩) := RegionOwn.Fr.at hfr (by kernel_rfl) rfl
      clear hK2 hD hfr hO
      unfold RegionOwn.T at e6
      go_simp
    | 3, _ =>
      refine RegionOwn.quiet rfl rfl hK2 rfl rfl ?_
      have d2 : RegionOwn.T y 29 = .pointer (some ⟨B, 0, none⟩) := hD 2 29 (by decide) rfl (by kernel_rfl) (.inl rfl)
      have c0 := HC0.out x' hbx
      have c1 := HC1.out x' hbx
      clear hK2 hD hfr hO
      unfold RegionOwn.T at d2
      go_simp
    | 4, _ =>
      refine RegionOwn.quiet rfl rfl hK2 rfl rfl ?_
      have e6 : RegionOwn.T y 6 = .pointer (some ⟨B, 0, none⟩) := RegionOwn.Fr.at hfr (by kernel_rfl) rfl
      clear hK2 hD hfr hO
      unfold RegionOwn.T at e6
      go_simp
    | 5, _ =>
      refine RegionOwn.quiet rfl rfl hK2 rfl rfl ?_
      have d4 : RegionOwn.T y 31 = .pointer (some ⟨B, 1, none⟩) := hD 4 31 (by decide) rfl (by kernel_rfl) (.inl rfl)
      have c0 := HC0.out x' hbx
      have c1 := HC1.out x' hbx
      clear hK2 hD hfr hO
      unfold RegionOwn.T at d4
      go_simp
    | 6, _ =>
      refine RegionOwn.quiet rfl rfl hK2 rfl rfl ?_
      have d5 : RegionOwn.T y 32 = .slice va n vc := hD 5 32 (by decide) rfl (by kernel_rfl) (.inl rfl)
      clear hK2 hD hfr hO
      unfold RegionOwn.T at d5
      go_simp
    | 7, _ =>
      refine RegionOwn.quiet rfl rfl hK2 rfl rfl ?_
      have e1 : RegionOwn.T y 1 = .int .i64 k := RegionOwn.Fr.at hfr (by kernel_rfl) rfl
      clear hK2 hD hfr hO
      unfold RegionOwn.T at e1
      go_simp
    | 8, _ =>
      refine RegionOwn.quiet rfl rfl hK2 rfl rfl ?_
      have e0 : RegionOwn.T y 0 = .string s := RegionOwn.Fr.at hfr (by kernel_rfl) rfl
      clear hK2 hD hfr hO
      unfold RegionOwn.T at e0
      go_simp
    | 9, _ =>
      refine RegionOwn.quiet rfl rfl hK2 rfl rfl ?_
      have e1 : RegionOwn.T y 1 = .int .i64 k := RegionOwn.Fr.at hfr (by kernel_rfl) rfl
      clear hK2 hD hfr hO
      unfold RegionOwn.T at e1
      go_simp
    | 10, _ =>
      have d8 : RegionOwn.T y 35 = .string s := hD 8 35 (by decide) rfl (by kernel_rfl) (.inl rfl)
      have d9 : RegionOwn.T y 36 = .int .i64 k := hD 9 36 (by decide) rfl (by kernel_rfl) (.inl rfl)
      refine RegionOwn.called (f := 67) (args := #[.string s, .int .i64 k]) rfl rfl hK2 rfl ?_ ((HC.out x').mono fun e y' h => ⟨_, h.1, h.2, rfl⟩)
      clear hK2 hD hfr hO
      unfold RegionOwn.T at d8 d9
      go_simp
    | 11, _ =>
      refine RegionOwn.quiet rfl rfl hK2 rfl rfl ?_
      have e6 : RegionOwn.T y 6 = .pointer (some ⟨B, 0, none⟩) := RegionOwn.Fr.at hfr (by kernel_rfl) rfl
      clear hK2 hD hfr hO
      unfold RegionOwn.T at e6
      go_simp
    | 12, _ =>
      refine RegionOwn.quiet rfl rfl hK2 rfl rfl ?_
      have d11 : RegionOwn.T y 38 = .pointer (some ⟨B, 1, none⟩) := hD 11 38 (by decide) rfl (by kernel_rfl) (.inl rfl)
      have c0 := HC0.out x' hbx
      have c1 := HC1.out x' hbx
      clear hK2 hD hfr hO
      unfold RegionOwn.T at d11
      go_simp
    | 13, _ =>
      refine RegionOwn.quiet rfl rfl hK2 rfl rfl ?_
      have e1 : RegionOwn.T y 1 = .int .i64 k := RegionOwn.Fr.at hfr (by kernel_rfl) rfl
      clear hK2 hD hfr hO
      unfold RegionOwn.T at e1
      go_simp
    | 14, _ =>
      have d12 : RegionOwn.T y 39 = .slice va n vc := hD 12 39 (by decide) rfl (by kernel_rfl) (.inl rfl)
      have d13 : RegionOwn.T y 40 = .int .i64 k := hD 13 40 (by decide) rfl (by kernel_rfl) (.inl rfl)
      refine RegionOwn.called (f := 68) (args := #[.slice va n vc, .int .i64 k]) rfl rfl hK2 rfl ?_ ((HB.out _ x' (HBW.out.trans (hbx.mono HBW.out.size)) (HR.out.below hbx (Nat.le_refl _))).mono fun e y' h => let ⟨pv, g1, g2, g3⟩ := h; ⟨pv, g1, g3, _, hbx.size, g2⟩)
      clear hK2 hD hfr hO
      unfold RegionOwn.T at d12 d13
      go_simp
    | i + 15, h => exact absurd h (by omega)
  · intro y x' hfr hbx hD
    have d1 : RegionOwn.T y 28 = .string DG := hD 1 28 (by decide) rfl (fun _ _ h => by cases h)
    have d3 : RegionOwn.T y 30 = .int .i64 s.size := hD 3 30 (by decide) rfl (fun _ _ h => by cases h)
    have d6 : RegionOwn.T y 33 = .int .i64 n := hD 6 33 (by decide) rfl (fun _ _ h => by cases h)
    have d7 : RegionOwn.T y 34 = .int .i64 k := hD 7 34 (by decide) rfl (fun _ _ h => by cases h)
    have d10 : RegionOwn.T y 37 = .string t := hD 10 37 (by decide) rfl (fun _ _ h => by cases h)
    have d14 : ∃ base, W.heap.size ≤ base ∧ x'.ownsRow base 9 1 (RegionOwn.T y 41) PA.length (PA.map Value.string) := hD 14 41 (by decide) rfl (fun _ _ h => by cases h)
    obtain ⟨base, hbase, hown⟩ := d14
    have e4 : RegionOwn.T y 4 = .pointer (some ⟨w.heap.size, 0, none⟩) := RegionOwn.Fr.at hfr (by kernel_rfl) rfl
    have I2 := hide (I.out.step hbx)
    obtain ⟨pa, pc, hpv⟩ := own_slice hown
    have hl43 : List.range 43 = [0, 1, 2, 3, 4, 5, 6, 7, 8, 9, 10, 11, 12, 13, 14, 15, 16, 17, 18, 19, 20, 21, 22, 23, 24, 25, 26, 27, 28, 29, 30, 31, 32, 33, 34, 35, 36, 37, 38, 39, 40, 41, 42] := by decide
    have hdf : y.defers = [] := hfr.defers
    rw [RegionOwn.act_lit y 43 (hfr.size.trans rfl), hl43, hdf]
    simp only [List.map_cons, List.map_nil, List.drop_succ_cons, List.drop_zero, d1, d3, d6, d7, d10, hpv, e4]
    rw [hpv] at hown
    have hlw : w.heap.size < W.heap.size := (Array.getElem?_eq_some_iff.1 I.out.row).1
    have HPV := hide (And.intro hown (And.intro hbase hlw))
    clear hD hfr d1 d3 d6 d7 d10 hown hbase hlw hpv e4 hl43 hdf HC0 HC1 HF HC HB HR
    go_wp2_with (refine wpList_store_row rfl 45 _ _ rfl _ _ rfl rfl 45 _ I2.out.row infoShare rfl (by simp [Value.oneCell']) ?_)
    refine bodyPost_ret (results_cell2_row Tryd.results38 _ _ _ _ _ (0, 0) _ rfl (setRow_heap _ _ _ _ _ _ I2.out.row) Tryd.underlying45 rfl infoShare) rfl ?_
    suffices hO : (World.setRow x' w.heap.size #[.string DG, .int .i64 s.size, .int .i64 n, .int .i64 k, .string t, .slice pa PA.length pc]).ownsRow base 9 1 (.slice pa PA.length pc) PA.length (PA.map Value.string) from ⟨_, rfl, StrRow.Reads.of_own hO, RegionOwn.Holds.of_own hO, below_setRow I2.out.below (Nat.le_refl _) _⟩
    refine World.ownsRow.kept HPV.out.1 (row := some w.heap.size) ⟨rfl, rfl, rfl, by simp [World.setRow], fun j _ hne => setRow_other _ _ _ _ (fun e => hne (by rw [e]))⟩ ?_
    rcases Option.eq_none_or_eq_some (Value.ownBlock (.slice pa PA.length pc)) with h | ⟨j, h⟩
    · exact .inl h
    · refine .inr ?_
      rw [h]
      intro e
      have := own_base HPV.out.1 h
      have h1 := HPV.out.2.1
      have h2 := HPV.out.2.2
      cases e
      omega
theorem show_any (s : ByteArray) (k : Nat) (t : ByteArray) (w : World) (hs : s.size ≤ 8192) (hn : (texts s).length ≤ 256) (ht : (texts s)[k]? = some t) (hst : Steps w) :
    Calls Tryd.prog 38 #[.string s, .int .i64 k] w fun e w' => ∃ pv, e = .returned (.tuple #[Sh.v ⟨named s.size (texts s).length (root ((texts s).map digest)), s.size, (texts s).length, k, t, path ((texts s).map digest) k⟩ pv, .int .i64 0]) ∧ StrRow.Reads w' pv (path ((texts s).map digest) k) ∧ Below w.heap.size w w' :=
  (show_own s k t w hs hn ht hst).mono fun _ _ ⟨pv, h1, h2, _, h4⟩ => ⟨pv, h1, h2, h4⟩
end Go.Proofs.YtoopaeahhbkncaaDoor
