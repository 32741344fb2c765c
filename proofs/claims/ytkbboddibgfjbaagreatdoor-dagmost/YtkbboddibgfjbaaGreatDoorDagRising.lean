/- Contract: the statements' own: a digest laid among others. -/
import Derived.Test.YtkbboddibgfjbaaGreatDoorDagPure
import Derived.Test.YtkbboddibgfjbaaGreatDoorNodeFive
import Derived.Test.YtkbboddibgfjbaaGreatDoorRegionAll
namespace Go.Dag
open Go.RowKit
/-- A slice of texts: nil, or cells that hold them. -/
def Hs (w : World) (v : Value) (xs : List ByteArray) : Prop :=
  (v = .slice none 0 0 ∧ xs = []) ∨ ∃ b off c, v = .slice (some ⟨b, off, none⟩) xs.length c ∧ b < w.heap.size ∧ xs.length ≤ c ∧ ∀ j s, xs[j]? = some s → w.cell? ⟨b, off + j, none⟩ = some (.string s)
theorem Hs.reads {w : World} {v : Value} {xs : List ByteArray} (h : Hs w v xs) : StrRow.Reads w v xs := by
  rcases h with ⟨rfl, rfl⟩ | ⟨b, off, c, h1, h2, h3, h4⟩
  · exact .inl ⟨⟨_, _, rfl⟩, rfl⟩
  · exact .inr ⟨b, off, c, h1, h2, h3, h4⟩
theorem Hs.of_own {w : World} {base e : Nat} {v : Value} {xs : List ByteArray} (h : w.ownsRow base e 1 v xs.length (xs.map Value.string)) : Hs w v xs := by
  rcases h.2 with ⟨rfl, h2⟩ | ⟨g, cap, cur, rfl, h2, h3, h4, h5, h6, h7⟩
  · exact .inl ⟨rfl, List.length_eq_zero_iff.1 h2⟩
  · refine .inr ⟨g, 0, cap, rfl, (Array.getElem?_eq_some_iff.1 h3).1, h4, fun j s hj => ?_⟩
    rw [Nat.zero_add, cell_of_row _ _ _ _ _ _ h3, ← Array.getElem?_toList]
    have : (cur.toList.take (xs.length * 1))[j]? = some (.string s) := by rw [h7, List.getElem?_map, hj]; rfl
    have hjl : j < xs.length := (List.getElem?_eq_some_iff.1 hj).1
    rwa [List.getElem?_take_of_lt (by omega)] at this
theorem Hs.below {w w' : World} {v : Value} {xs : List ByteArray} (h : Hs w v xs) (k : Below w.heap.size w w') : Hs w' v xs := by
  rcases h with h | ⟨b, off, c, h1, h2, h3, h4⟩
  · exact .inl h
  · exact .inr ⟨b, off, c, h1, Nat.lt_of_lt_of_le h2 k.size, h3, fun j s hj => (k.cell (p := ⟨b, off + j, none⟩) h2).trans (h4 j s hj)⟩
theorem add_at (b off j : Nat) : (⟨b, off, none⟩ : Addr).add j = ⟨b, off + j, none⟩ := by unfold Addr.add; split <;> simp_all
end Go.Dag
namespace Go.Proofs.YtkbboddibgfjbaaGreatDoor
open Go.RowKit Go.Sort Go.Wire Go.Stamp Go.Opn Go.Nod Go.MapFun Go.Dag
attribute [local go_sem] Oper.semAt_some
theorem lrInfo9 : (Tryz.prog.info? 9).map (fun i => (i.zero, i.size, i.bytes)) = some (some (.string ⟨#[]⟩), 1, 16) := by kernel_rfl
set_option maxRecDepth 100000 in
set_option maxHeartbeats 4000000 in
theorem lrising_any (v : Value) (xs : List ByteArray) (h : ByteArray) (w : World) (hR0 : Hs w v xs) (hn : xs.length ≤ 1000) :
    Calls Tryz.prog 28 #[v, .string h] w fun e w' => ∃ v', e = .returned v' ∧ Hs w' v' (ins xs h) ∧ Below w.heap.size w w' ∧ (v' = v ∨ ∀ x, v'.ownBlock = some x → w.heap.size ≤ x) := by
  obtain ⟨i9, hi9, hz0, hz1, hz2⟩ := info_parts lrInfo9
  have hR := hR0.reads
  have HS := hide hR0
  clear hR0
  obtain ⟨a, c, rfl⟩ := hR.form
  have HR := hide hR
  have hn' : (xs.length : Int) ≤ 1000 := by omega
  have hple := place_le xs h
  clear hR
  go_enter Tryz.func28, Tryz.ntmps28
  go_wp2_with fail
  go_loop [5] (fun vi => ∃ i : Nat, i ≤ place xs h ∧ vi = .int .i64 i) (fun vi => 1000 - (intOf vi).toNat)
  case atStart => exact ⟨0, Nat.zero_le _, rfl⟩
  case round =>
    obtain ⟨i, hi, rfl⟩ := hrel
    by_cases hlt : i < place xs h
    · obtain ⟨x, hx, hless⟩ := place_lt hlt
      have hlt' : (i : Int) < xs.length := by omega
      obtain ⟨b, off, cap, hv, hcap, hbl⟩ := HR.out.at (by intro h; rw [h] at hx; cases hx)
      simp only [Value.slice.injEq, true_and] at hv
      obtain ⟨rfl, rfl⟩ := hv
      have hcell := HR.out.cell hx
      have hl' : Go.Op.bytesLess x.toList h.toList = true := hless
      go_wp2_with fail
      go_round
      case rel => exact ⟨i + 1, by omega, by go_num⟩
      case measure => simp [intOf]; omega
    · have hie : Hid (i = place xs h) := by show _ = _; omega
      clear hlt
      cases hx : xs[i]? with
      | some x =>
        have hless : less x h = false := place_end (l := xs) (by rw [← hie.out]; exact hx)
        have hlt2 : i < xs.length := (List.getElem?_eq_some_iff.1 hx).1
        have hlt' : (i : Int) < xs.length := by omega
        obtain ⟨b, off, cap, hv, hcap, hbl⟩ := HR.out.at (by intro h; rw [h] at hx; cases hx)
        simp only [Value.slice.injEq, true_and] at hv
        obtain ⟨rfl, rfl⟩ := hv
        have hcell := HR.out.cell hx
        have hl' : Go.Op.bytesLess x.toList h.toList = false := hless
        by_cases hxh : x = h
        · subst hxh
          have HI := hide (ins_in (l := xs) (h := x) (by rw [← hie.out]; exact hx))
          go_wp2_with fail
          go_ret
          exact ⟨_, rfl, by rw [HI.out]; exact HS.out, Below.refl _ _, .inl rfl⟩
        · have HI := hide (ins_new (l := xs) (h := h) (by rw [← hie.out, hx]; intro e; cases e; exact hxh rfl))
          rw [← hie.out] at HI
          have hxe : (x.toList == h.toList) = false := beq_eq_false_iff_ne.2 (fun e => hxh ((toList_iff x h).1 e))
          go_upto_region 6 with fail
          have hcellsA : ∀ j s, xs[j]? = some s → w.cell? ⟨b, off + j, none⟩ = some (.string s) := fun j s hj => HR.out.cell hj
          obtain ⟨i0, hi0⟩ : ∃ i0, i0 = i := ⟨_, rfl⟩
          obtain ⟨fv, efv⟩ : ∃ fv, fv = Value.slice (some ⟨b, off, none⟩) xs.length c := ⟨_, rfl⟩
          obtain ⟨hv, ehv⟩ : ∃ fv, fv = Value.slice (some ⟨b, off, none⟩) i c := ⟨_, rfl⟩
          obtain ⟨rv, erv⟩ : ∃ fv, fv = Value.slice (if c = i then some ⟨b, off, none⟩ else some ⟨b, off + i, none⟩) (xs.length - i) (c - i) := ⟨_, rfl⟩
          subst hi0
          have HH : Hid (∀ x, Below w.heap.size w x → RegionOwn.Holds x hv 1 i0 ((xs.take i0).map Value.string) ∧ RegionOwn.Holds x rv 1 (xs.length - i0) ((xs.drop i0).map Value.string)) := fun x hx => by
            refine ⟨⟨by rw [List.length_map, List.length_take]; omega, .inr ⟨⟨b, off, none⟩, c, ehv, fun j u hu => ?_⟩⟩, ⟨by rw [List.length_map, List.length_drop]; omega, .inr ⟨⟨b, off + i0, none⟩, c - i0, by rw [erv, if_neg (by omega)], fun j u hu => ?_⟩⟩⟩
            · rw [List.getElem?_map] at hu
              cases hj : (xs.take i0)[j]? with
              | none => rw [hj] at hu; cases hu
              | some s =>
                rw [hj] at hu
                cases hu
                rw [add_at, hx.cell (p := ⟨b, off + j, none⟩) hbl]
                refine hcellsA j s ?_
                rw [List.getElem?_take] at hj
                split at hj
                · exact hj
                · cases hj
            · rw [List.getElem?_map] at hu
              cases hj : (xs.drop i0)[j]? with
              | none => rw [hj] at hu; cases hu
              | some s =>
                rw [hj] at hu
                cases hu
                rw [add_at, Nat.add_assoc, hx.cell (p := ⟨b, off + (i0 + j), none⟩) hbl]
                exact hcellsA (i0 + j) s (by rw [← hj, List.getElem?_drop])
          have HONE : Hid ((∀ u ∈ (xs.take i0).map Value.string, u.oneCell' = true) ∧ ∀ u ∈ (xs.drop i0).map Value.string, u.oneCell' = true) := ⟨fun u hu => by obtain ⟨s, _, rfl⟩ := List.mem_map.1 hu; rfl, fun u hu => by obtain ⟨s, _, rfl⟩ := List.mem_map.1 hu; rfl⟩
          have hc1 : (i0 : Int) ≤ c := by omega
          have hc2 : (xs.length : Int) ≤ c := by omega
          have hc3 : (i0 : Int) ≤ xs.length := by omega
          clear hcellsA hcell
          rw [← efv]
          refine RegionOwn.regionK 12 45 9 1 (fun i => match i with
            | 0 => RegionOwn.row 0 [] 4
            | 1 => RegionOwn.val fv
            | 2 => RegionOwn.val (.int .i64 i0)
            | 3 => RegionOwn.val hv
            | 4 => RegionOwn.row i0 ((xs.take i0).map Value.string) 7
            | 5 => RegionOwn.val (.string h)
            | 6 => RegionOwn.row 1 [.string h] 7
            | 7 => RegionOwn.row (i0 + 1) ((xs.take i0).map Value.string ++ [.string h]) 11
            | 8 => RegionOwn.val fv
            | 9 => RegionOwn.val (.int .i64 i0)
            | 10 => RegionOwn.val rv
            | 11 => RegionOwn.row (i0 + 1 + (xs.length - i0)) ((xs.take i0).map Value.string ++ [.string h] ++ (xs.drop i0).map Value.string) 12
            | _ => RegionOwn.val undef) (fun i => match i with | 0 => some 4 | 4 => some 7 | 6 => some 7 | 7 => some 11 | 11 => some 12 | _ => none) ?_ (by kernel_rfl) rfl (by kernel_rfl) ?_ ?_ ?_
          · intro i hi
            match i, hi with
            | 0, _ | 1, _ | 2, _ | 3, _ | 4, _ | 5, _ | 6, _ | 7, _ | 8, _ | 9, _ | 10, _ | 11, _ => rfl
            | i + 12, h => exact absurd h (by omega)
          · intro i p hi h
            match i, hi, h with
            | 0, _, h | 1, _, h | 2, _, h | 3, _, h | 4, _, h | 5, _, h | 6, _, h | 7, _, h | 8, _, h | 9, _, h | 10, _, h | 11, _, h => cases h
            | i + 12, h, _ => exact absurd h (by omega)
          · intro i hi y x hfr hbx hD _ K hK
            have e0 : RegionOwn.T y 0 = fv := hfr.at (by kernel_rfl) rfl
            have e1 : RegionOwn.T y 1 = .string h := hfr.at (by kernel_rfl) rfl
            have e5 : RegionOwn.T y 5 = .int .i64 i0 := hfr.at (by kernel_rfl) rfl
            have hsz := hbx.size
            match i, hi with
            | 0, _ =>
              refine RegionOwn.made (ob := .cells #[] 9) (v := .slice (some ⟨x.heap.size, 0, none⟩) 0 0) rfl rfl hK (World.ownsRow_made x #[] 0 hsz (Nat.zero_le _) rfl) (fun g h => by simp [Value.ownBlock] at h; omega) ?_
              clear hK hD hfr
              go_simp
            | 1, _ =>
              refine RegionOwn.quiet rfl rfl hK rfl rfl ?_
              clear hK hD hfr
              unfold RegionOwn.T at e0
              go_simp
            | 2, _ =>
              refine RegionOwn.quiet rfl rfl hK rfl rfl ?_
              clear hK hD hfr
              unfold RegionOwn.T at e5
              go_simp
            | 3, _ =>
              refine RegionOwn.quiet rfl rfl hK rfl rfl ?_
              have q : RegionOwn.T y 34 = fv := hD 1 34 (by decide) rfl (by kernel_rfl) (.inl rfl)
              have q1 : RegionOwn.T y 35 = .int .i64 i0 := hD 2 35 (by decide) rfl (by kernel_rfl) (.inl rfl)
              rw [efv] at q
              rw [ehv]
              clear hK hD hfr e0 e1 e5
              unfold RegionOwn.T at q q1
              go_simp
            | 4, _ =>
              have q : x.ownsRow w.heap.size 9 1 (RegionOwn.T y 33) 0 [] := hD 0 33 (by decide) rfl (by kernel_rfl) (.inr rfl)
              have q1 : RegionOwn.T y 36 = hv := hD 3 36 (by decide) rfl (by kernel_rfl) (.inl rfl)
              refine RegionOwn.appended (j := 0) (k := i0) (ys := (xs.take i0).map Value.string) rfl rfl hK rfl i9 _ 1 16 Tryz.underlying24 hi9 hz0 hz1 hz2 rfl (by decide) (by decide) rfl rfl q hsz (by rw [q1]; exact (HH.out x hbx).1) HONE.out.1 (by simp only [maxLen]; omega) (by omega) fun v z hz => ?_
              rw [Nat.zero_add] at hz
              exact hz
            | 5, _ =>
              refine RegionOwn.quiet rfl rfl hK rfl rfl ?_
              clear hK hD hfr
              unfold RegionOwn.T at e1
              go_simp
            | 6, _ =>
              have q : RegionOwn.T y 38 = .string h := hD 5 38 (by decide) rfl (by kernel_rfl) (.inl rfl)
              refine RegionOwn.made (ob := .cells #[.string h] 9) (v := .slice (some ⟨x.heap.size, 0, none⟩) 1 1) rfl rfl hK (RegionOwn.made_one x _ 9 1 #[.string h] hsz rfl) (fun g h => by simp [Value.ownBlock] at h; omega) ?_
              clear hK hD hfr
              unfold RegionOwn.T at q
              have q' := q
              rw [Array.getD_eq_getD_getElem?] at q'
              go_simp
            | 7, _ =>
              have q : x.ownsRow w.heap.size 9 1 (RegionOwn.T y 37) i0 ((xs.take i0).map Value.string) := hD 4 37 (by decide) rfl (by kernel_rfl) (.inr rfl)
              have q1 : x.ownsRow w.heap.size 9 1 (RegionOwn.T y 39) 1 [.string h] := hD 6 39 (by decide) rfl (by kernel_rfl) (.inr rfl)
              exact RegionOwn.appended (j := 4) (k := 1) (ys := [.string h]) rfl rfl hK rfl i9 _ 1 16 Tryz.underlying24 hi9 hz0 hz1 hz2 rfl (by decide) (by decide) rfl rfl q hsz (.of_own q1) (by intro u hu; simp at hu; subst hu; rfl) (by simp only [maxLen]; omega) (by omega) fun v z hz => hz
            | 8, _ =>
              refine RegionOwn.quiet rfl rfl hK rfl rfl ?_
              clear hK hD hfr
              unfold RegionOwn.T at e0
              go_simp
            | 9, _ =>
              refine RegionOwn.quiet rfl rfl hK rfl rfl ?_
              clear hK hD hfr
              unfold RegionOwn.T at e5
              go_simp
            | 10, _ =>
              refine RegionOwn.quiet rfl rfl hK rfl rfl ?_
              have q : RegionOwn.T y 41 = fv := hD 8 41 (by decide) rfl (by kernel_rfl) (.inl rfl)
              have q1 : RegionOwn.T y 42 = .int .i64 i0 := hD 9 42 (by decide) rfl (by kernel_rfl) (.inl rfl)
              rw [efv] at q
              rw [erv]
              clear hK hD hfr e0 e1 e5
              unfold RegionOwn.T at q q1
              go_simp
            | 11, _ =>
              have q : x.ownsRow w.heap.size 9 1 (RegionOwn.T y 40) (i0 + 1) ((xs.take i0).map Value.string ++ [.string h]) := hD 7 40 (by decide) rfl (by kernel_rfl) (.inr rfl)
              have q1 : RegionOwn.T y 43 = rv := hD 10 43 (by decide) rfl (by kernel_rfl) (.inl rfl)
              exact RegionOwn.appended (j := 7) (k := xs.length - i0) (ys := (xs.drop i0).map Value.string) rfl rfl hK rfl i9 _ 1 16 Tryz.underlying24 hi9 hz0 hz1 hz2 rfl (by decide) (by decide) rfl rfl q hsz (by rw [q1]; exact (HH.out x hbx).2) HONE.out.2 (by simp only [maxLen]; omega) (by omega) fun v z hz => hz
            | i + 12, h => exact absurd h (by omega)
          · intro y x hfr hbx hD
            have q : x.ownsRow w.heap.size 9 1 (RegionOwn.T y 44) (i0 + 1 + (xs.length - i0)) ((xs.take i0).map Value.string ++ [.string h] ++ (xs.drop i0).map Value.string) := hD 11 44 (by decide) rfl (fun i hi e => by cases e; omega)
            refine RegionOwn.list_value (v := RegionOwn.T y 44) (y := x) rfl ?_ ?_
            · clear hD hfr q
              unfold RegionOwn.T
              go_simp
            · have hy := RegionOwn.act_lit y 45 hfr.size
              rw [hfr.defers] at hy
              obtain ⟨V, hV⟩ : ∃ V, V = RegionOwn.T y 44 := ⟨_, rfl⟩
              rw [← hV] at q ⊢
              have HQ := hide (And.intro q hbx)
              rw [hy]
              clear hD hfr q hV hbx hy
              simp only [show List.range 45 = [0, 1, 2, 3, 4, 5, 6, 7, 8, 9, 10, 11, 12, 13, 14, 15, 16, 17, 18, 19, 20, 21, 22, 23, 24, 25, 26, 27, 28, 29, 30, 31, 32, 33, 34, 35, 36, 37, 38, 39, 40, 41, 42, 43, 44] from rfl, List.map_cons, List.map_nil]
              go_wp2_with fail
              go_ret
              refine ⟨V, rfl, ?_, HQ.out.2, .inr fun x hx => (HQ.out.1.lt x hx).1⟩
              have hq := HQ.out.1
              have e1 : i0 + 1 + (xs.length - i0) = (ins xs h).length := by rw [HI.out]; simp only [List.length_append, List.length_take, List.length_cons, List.length_drop]; omega
              have e2 : (xs.take i0).map Value.string ++ [.string h] ++ (xs.drop i0).map Value.string = (ins xs h).map Value.string := by rw [HI.out]; simp
              rw [e1, e2] at hq
              exact Hs.of_own hq
      | none =>
        have hge : xs.length ≤ i := List.getElem?_eq_none_iff.1 hx
        have hlt' : ¬ (i : Int) < xs.length := by omega
        have HI := hide (ins_new (l := xs) (h := h) (by rw [← hie.out, hx]; intro e; cases e))
        rw [← hie.out] at HI
        rcases HS.out with ⟨hv0, hxs⟩ | ⟨b, off, c', hv0, hbl, hcap, hcellsA⟩
        · subst hxs
          simp only [Value.slice.injEq] at hv0
          obtain ⟨rfl, -, rfl⟩ := hv0
          have hi0' : i = 0 := by have := hie.out; simpa [place] using this
          subst hi0'
          go_upto_region 6 with fail
          obtain ⟨fv, efv⟩ : ∃ fv, fv = Value.slice none 0 0 := ⟨_, rfl⟩
          obtain ⟨hv, ehv⟩ : ∃ fv, fv = Value.slice none 0 0 := ⟨_, rfl⟩
          have HH : ∀ x : World, Hid (RegionOwn.Holds x hv 1 0 ([] : List Value)) := fun x => ⟨rfl, .inl ⟨ehv, rfl⟩⟩
          have HONE : Hid ((∀ u ∈ ([] : List Value), u.oneCell' = true) ∧ ∀ u ∈ ([] : List Value), u.oneCell' = true) := ⟨(fun u hu => by cases hu), (fun u hu => by cases hu)⟩
          refine RegionOwn.regionK 12 45 9 1 (fun i => match i with
            | 0 => RegionOwn.row 0 [] 4
            | 1 => RegionOwn.val fv
            | 2 => RegionOwn.val (.int .i64 0)
            | 3 => RegionOwn.val hv
            | 4 => RegionOwn.row 0 (([] : List Value)) 7
            | 5 => RegionOwn.val (.string h)
            | 6 => RegionOwn.row 1 [.string h] 7
            | 7 => RegionOwn.row (0 + 1) (([] : List Value) ++ [.string h]) 11
            | 8 => RegionOwn.val fv
            | 9 => RegionOwn.val (.int .i64 0)
            | 10 => RegionOwn.val hv
            | 11 => RegionOwn.row (0 + 1 + (0)) (([] : List Value) ++ [.string h] ++ ([] : List Value)) 12
            | _ => RegionOwn.val undef) (fun i => match i with | 0 => some 4 | 4 => some 7 | 6 => some 7 | 7 => some 11 | 11 => some 12 | _ => none) ?_ (by kernel_rfl) rfl (by kernel_rfl) ?_ ?_ ?_
          · intro i hi
            match i, hi with
            | 0, _ | 1, _ | 2, _ | 3, _ | 4, _ | 5, _ | 6, _ | 7, _ | 8, _ | 9, _ | 10, _ | 11, _ => rfl
            | i + 12, h => exact absurd h (by omega)
          · intro i p hi h
            match i, hi, h with
            | 0, _, h | 1, _, h | 2, _, h | 3, _, h | 4, _, h | 5, _, h | 6, _, h | 7, _, h | 8, _, h | 9, _, h | 10, _, h | 11, _, h => cases h
            | i + 12, h, _ => exact absurd h (by omega)
          · intro i hi y x hfr hbx hD _ K hK
            have e0 : RegionOwn.T y 0 = fv := by rw [efv]; exact hfr.at (by kernel_rfl) rfl
            have e1 : RegionOwn.T y 1 = .string h := hfr.at (by kernel_rfl) rfl
            have e5 : RegionOwn.T y 5 = .int .i64 0 := hfr.at (by kernel_rfl) rfl
            have hsz := hbx.size
            match i, hi with
            | 0, _ =>
              refine RegionOwn.made (ob := .cells #[] 9) (v := .slice (some ⟨x.heap.size, 0, none⟩) 0 0) rfl rfl hK (World.ownsRow_made x #[] 0 hsz (Nat.zero_le _) rfl) (fun g h => by simp [Value.ownBlock] at h; omega) ?_
              clear hK hD hfr
              go_simp
            | 1, _ =>
              refine RegionOwn.quiet rfl rfl hK rfl rfl ?_
              clear hK hD hfr
              unfold RegionOwn.T at e0
              go_simp
            | 2, _ =>
              refine RegionOwn.quiet rfl rfl hK rfl rfl ?_
              clear hK hD hfr
              unfold RegionOwn.T at e5
              go_simp
            | 3, _ =>
              refine RegionOwn.quiet rfl rfl hK rfl rfl ?_
              have q : RegionOwn.T y 34 = fv := hD 1 34 (by decide) rfl (by kernel_rfl) (.inl rfl)
              have q1 : RegionOwn.T y 35 = .int .i64 0 := hD 2 35 (by decide) rfl (by kernel_rfl) (.inl rfl)
              rw [efv] at q
              rw [ehv]
              clear hK hD hfr e0 e1 e5
              unfold RegionOwn.T at q q1
              go_simp
            | 4, _ =>
              have q : x.ownsRow w.heap.size 9 1 (RegionOwn.T y 33) 0 [] := hD 0 33 (by decide) rfl (by kernel_rfl) (.inr rfl)
              have q1 : RegionOwn.T y 36 = hv := hD 3 36 (by decide) rfl (by kernel_rfl) (.inl rfl)
              refine RegionOwn.appended (j := 0) (k := 0) (ys := []) rfl rfl hK rfl i9 _ 1 16 Tryz.underlying24 hi9 hz0 hz1 hz2 rfl (by decide) (by decide) rfl rfl q hsz (by rw [q1]; exact (HH x).out) HONE.out.1 (by simp only [maxLen]; omega) (by omega) fun v z hz => ?_
              rw [Nat.zero_add] at hz
              exact hz
            | 5, _ =>
              refine RegionOwn.quiet rfl rfl hK rfl rfl ?_
              clear hK hD hfr
              unfold RegionOwn.T at e1
              go_simp
            | 6, _ =>
              have q : RegionOwn.T y 38 = .string h := hD 5 38 (by decide) rfl (by kernel_rfl) (.inl rfl)
              refine RegionOwn.made (ob := .cells #[.string h] 9) (v := .slice (some ⟨x.heap.size, 0, none⟩) 1 1) rfl rfl hK (RegionOwn.made_one x _ 9 1 #[.string h] hsz rfl) (fun g h => by simp [Value.ownBlock] at h; omega) ?_
              clear hK hD hfr
              unfold RegionOwn.T at q
              have q' := q
              rw [Array.getD_eq_getD_getElem?] at q'
              go_simp
            | 7, _ =>
              have q : x.ownsRow w.heap.size 9 1 (RegionOwn.T y 37) 0 (([] : List Value)) := hD 4 37 (by decide) rfl (by kernel_rfl) (.inr rfl)
              have q1 : x.ownsRow w.heap.size 9 1 (RegionOwn.T y 39) 1 [.string h] := hD 6 39 (by decide) rfl (by kernel_rfl) (.inr rfl)
              exact RegionOwn.appended (j := 4) (k := 1) (ys := [.string h]) rfl rfl hK rfl i9 _ 1 16 Tryz.underlying24 hi9 hz0 hz1 hz2 rfl (by decide) (by decide) rfl rfl q hsz (.of_own q1) (by intro u hu; simp at hu; subst hu; rfl) (by simp only [maxLen]; omega) (by omega) fun v z hz => hz
            | 8, _ =>
              refine RegionOwn.quiet rfl rfl hK rfl rfl ?_
              clear hK hD hfr
              unfold RegionOwn.T at e0
              go_simp
            | 9, _ =>
              refine RegionOwn.quiet rfl rfl hK rfl rfl ?_
              clear hK hD hfr
              unfold RegionOwn.T at e5
              go_simp
            | 10, _ =>
              refine RegionOwn.quiet rfl rfl hK rfl rfl ?_
              have q : RegionOwn.T y 41 = fv := hD 8 41 (by decide) rfl (by kernel_rfl) (.inl rfl)
              have q1 : RegionOwn.T y 42 = .int .i64 0 := hD 9 42 (by decide) rfl (by kernel_rfl) (.inl rfl)
              rw [efv] at q
              rw [ehv]
              clear hK hD hfr e0 e1 e5
              unfold RegionOwn.T at q q1
              go_simp
            | 11, _ =>
              have q : x.ownsRow w.heap.size 9 1 (RegionOwn.T y 40) (0 + 1) (([] : List Value) ++ [.string h]) := hD 7 40 (by decide) rfl (by kernel_rfl) (.inr rfl)
              have q1 : RegionOwn.T y 43 = hv := hD 10 43 (by decide) rfl (by kernel_rfl) (.inl rfl)
              exact RegionOwn.appended (j := 7) (k := 0) (ys := []) rfl rfl hK rfl i9 _ 1 16 Tryz.underlying24 hi9 hz0 hz1 hz2 rfl (by decide) (by decide) rfl rfl q hsz (by rw [q1]; exact (HH x).out) HONE.out.2 (by simp only [maxLen]; omega) (by omega) fun v z hz => hz
            | i + 12, h => exact absurd h (by omega)
          · intro y x hfr hbx hD
            have q : x.ownsRow w.heap.size 9 1 (RegionOwn.T y 44) (0 + 1 + (0)) (([] : List Value) ++ [.string h] ++ ([] : List Value)) := hD 11 44 (by decide) rfl (fun i hi e => by cases e; omega)
            refine RegionOwn.list_value (v := RegionOwn.T y 44) (y := x) rfl ?_ ?_
            · clear hD hfr q
              unfold RegionOwn.T
              go_simp
            · have hy := RegionOwn.act_lit y 45 hfr.size
              rw [hfr.defers] at hy
              obtain ⟨V, hV⟩ : ∃ V, V = RegionOwn.T y 44 := ⟨_, rfl⟩
              rw [← hV] at q ⊢
              have HQ := hide (And.intro q hbx)
              rw [hy]
              clear hD hfr q hV hbx hy
              simp only [show List.range 45 = [0, 1, 2, 3, 4, 5, 6, 7, 8, 9, 10, 11, 12, 13, 14, 15, 16, 17, 18, 19, 20, 21, 22, 23, 24, 25, 26, 27, 28, 29, 30, 31, 32, 33, 34, 35, 36, 37, 38, 39, 40, 41, 42, 43, 44] from rfl, List.map_cons, List.map_nil]
              go_wp2_with fail
              go_ret
              refine ⟨V, rfl, ?_, HQ.out.2, .inr fun x hx => (HQ.out.1.lt x hx).1⟩
              have hq := HQ.out.1
              have e1 : 0 + 1 + 0 = (ins [] h).length := by rw [HI.out]; rfl
              have e2 : ([] : List Value) ++ [.string h] ++ [] = (ins [] h).map Value.string := by rw [HI.out]; rfl
              rw [e1, e2] at hq
              exact Hs.of_own hq
        · simp only [Value.slice.injEq] at hv0
          obtain ⟨rfl, -, rfl⟩ := hv0
          go_upto_region 6 with fail
          obtain ⟨i0, hi0⟩ : ∃ i0, i0 = i := ⟨_, rfl⟩
          obtain ⟨fv, efv⟩ : ∃ fv, fv = Value.slice (some ⟨b, off, none⟩) xs.length c := ⟨_, rfl⟩
          obtain ⟨hv, ehv⟩ : ∃ fv, fv = Value.slice (some ⟨b, off, none⟩) i c := ⟨_, rfl⟩
          obtain ⟨rv, erv⟩ : ∃ fv, fv = Value.slice (if c = i then some ⟨b, off, none⟩ else some ⟨b, off + i, none⟩) (xs.length - i) (c - i) := ⟨_, rfl⟩
          subst hi0
          have HH : Hid (∀ x, Below w.heap.size w x → RegionOwn.Holds x hv 1 i0 ((xs.take i0).map Value.string) ∧ RegionOwn.Holds x rv 1 (xs.length - i0) ((xs.drop i0).map Value.string)) := fun x hx => by
            refine ⟨⟨by rw [List.length_map, List.length_take]; omega, .inr ⟨⟨b, off, none⟩, c, ehv, fun j u hu => ?_⟩⟩, ⟨by rw [List.length_map, List.length_drop]; omega, .inr ⟨(if c = i0 then ⟨b, off, none⟩ else ⟨b, off + i0, none⟩), c - i0, by rw [erv]; split <;> rfl, fun j u hu => ?_⟩⟩⟩
            · rw [List.getElem?_map] at hu
              cases hj : (xs.take i0)[j]? with
              | none => rw [hj] at hu; cases hu
              | some s =>
                rw [hj] at hu
                cases hu
                rw [add_at, hx.cell (p := ⟨b, off + j, none⟩) hbl]
                refine hcellsA j s ?_
                rw [List.getElem?_take] at hj
                split at hj
                · exact hj
                · cases hj
            · rw [List.drop_of_length_le hge] at hu
              cases hu
          have HONE : Hid ((∀ u ∈ (xs.take i0).map Value.string, u.oneCell' = true) ∧ ∀ u ∈ (xs.drop i0).map Value.string, u.oneCell' = true) := ⟨fun u hu => by obtain ⟨s, _, rfl⟩ := List.mem_map.1 hu; rfl, fun u hu => by obtain ⟨s, _, rfl⟩ := List.mem_map.1 hu; rfl⟩
          have hc1 : (i0 : Int) ≤ c := by omega
          have hc2 : (xs.length : Int) ≤ c := by omega
          have hc3 : (i0 : Int) ≤ xs.length := by omega
          clear hcellsA
          rw [← efv]
          refine RegionOwn.regionK 12 45 9 1 (fun i => match i with
            | 0 => RegionOwn.row 0 [] 4
            | 1 => RegionOwn.val fv
            | 2 => RegionOwn.val (.int .i64 i0)
            | 3 => RegionOwn.val hv
            | 4 => RegionOwn.row i0 ((xs.take i0).map Value.string) 7
            | 5 => RegionOwn.val (.string h)
            | 6 => RegionOwn.row 1 [.string h] 7
            | 7 => RegionOwn.row (i0 + 1) ((xs.take i0).map Value.string ++ [.string h]) 11
            | 8 => RegionOwn.val fv
            | 9 => RegionOwn.val (.int .i64 i0)
            | 10 => RegionOwn.val rv
            | 11 => RegionOwn.row (i0 + 1 + (xs.length - i0)) ((xs.take i0).map Value.string ++ [.string h] ++ (xs.drop i0).map Value.string) 12
            | _ => RegionOwn.val undef) (fun i => match i with | 0 => some 4 | 4 => some 7 | 6 => some 7 | 7 => some 11 | 11 => some 12 | _ => none) ?_ (by kernel_rfl) rfl (by kernel_rfl) ?_ ?_ ?_
          · intro i hi
            match i, hi with
            | 0, _ | 1, _ | 2, _ | 3, _ | 4, _ | 5, _ | 6, _ | 7, _ | 8, _ | 9, _ | 10, _ | 11, _ => rfl
            | i + 12, h => exact absurd h (by omega)
          · intro i p hi h
            match i, hi, h with
            | 0, _, h | 1, _, h | 2, _, h | 3, _, h | 4, _, h | 5, _, h | 6, _, h | 7, _, h | 8, _, h | 9, _, h | 10, _, h | 11, _, h => cases h
            | i + 12, h, _ => exact absurd h (by omega)
          · intro i hi y x hfr hbx hD _ K hK
            have e0 : RegionOwn.T y 0 = fv := hfr.at (by kernel_rfl) rfl
            have e1 : RegionOwn.T y 1 = .string h := hfr.at (by kernel_rfl) rfl
            have e5 : RegionOwn.T y 5 = .int .i64 i0 := hfr.at (by kernel_rfl) rfl
            have hsz := hbx.size
            match i, hi with
            | 0, _ =>
              refine RegionOwn.made (ob := .cells #[] 9) (v := .slice (some ⟨x.heap.size, 0, none⟩) 0 0) rfl rfl hK (World.ownsRow_made x #[] 0 hsz (Nat.zero_le _) rfl) (fun g h => by simp [Value.ownBlock] at h; omega) ?_
              clear hK hD hfr
              go_simp
            | 1, _ =>
              refine RegionOwn.quiet rfl rfl hK rfl rfl ?_
              clear hK hD hfr
              unfold RegionOwn.T at e0
              go_simp
            | 2, _ =>
              refine RegionOwn.quiet rfl rfl hK rfl rfl ?_
              clear hK hD hfr
              unfold RegionOwn.T at e5
              go_simp
            | 3, _ =>
              refine RegionOwn.quiet rfl rfl hK rfl rfl ?_
              have q : RegionOwn.T y 34 = fv := hD 1 34 (by decide) rfl (by kernel_rfl) (.inl rfl)
              have q1 : RegionOwn.T y 35 = .int .i64 i0 := hD 2 35 (by decide) rfl (by kernel_rfl) (.inl rfl)
              rw [efv] at q
              rw [ehv]
              clear hK hD hfr e0 e1 e5
              unfold RegionOwn.T at q q1
              go_simp
            | 4, _ =>
              have q : x.ownsRow w.heap.size 9 1 (RegionOwn.T y 33) 0 [] := hD 0 33 (by decide) rfl (by kernel_rfl) (.inr rfl)
              have q1 : RegionOwn.T y 36 = hv := hD 3 36 (by decide) rfl (by kernel_rfl) (.inl rfl)
              refine RegionOwn.appended (j := 0) (k := i0) (ys := (xs.take i0).map Value.string) rfl rfl hK rfl i9 _ 1 16 Tryz.underlying24 hi9 hz0 hz1 hz2 rfl (by decide) (by decide) rfl rfl q hsz (by rw [q1]; exact (HH.out x hbx).1) HONE.out.1 (by simp only [maxLen]; omega) (by omega) fun v z hz => ?_
              rw [Nat.zero_add] at hz
              exact hz
            | 5, _ =>
              refine RegionOwn.quiet rfl rfl hK rfl rfl ?_
              clear hK hD hfr
              unfold RegionOwn.T at e1
              go_simp
            | 6, _ =>
              have q : RegionOwn.T y 38 = .string h := hD 5 38 (by decide) rfl (by kernel_rfl) (.inl rfl)
              refine RegionOwn.made (ob := .cells #[.string h] 9) (v := .slice (some ⟨x.heap.size, 0, none⟩) 1 1) rfl rfl hK (RegionOwn.made_one x _ 9 1 #[.string h] hsz rfl) (fun g h => by simp [Value.ownBlock] at h; omega) ?_
              clear hK hD hfr
              unfold RegionOwn.T at q
              have q' := q
              rw [Array.getD_eq_getD_getElem?] at q'
              go_simp
            | 7, _ =>
              have q : x.ownsRow w.heap.size 9 1 (RegionOwn.T y 37) i0 ((xs.take i0).map Value.string) := hD 4 37 (by decide) rfl (by kernel_rfl) (.inr rfl)
              have q1 : x.ownsRow w.heap.size 9 1 (RegionOwn.T y 39) 1 [.string h] := hD 6 39 (by decide) rfl (by kernel_rfl) (.inr rfl)
              exact RegionOwn.appended (j := 4) (k := 1) (ys := [.string h]) rfl rfl hK rfl i9 _ 1 16 Tryz.underlying24 hi9 hz0 hz1 hz2 rfl (by decide) (by decide) rfl rfl q hsz (.of_own q1) (by intro u hu; simp at hu; subst hu; rfl) (by simp only [maxLen]; omega) (by omega) fun v z hz => hz
            | 8, _ =>
              refine RegionOwn.quiet rfl rfl hK rfl rfl ?_
              clear hK hD hfr
              unfold RegionOwn.T at e0
              go_simp
            | 9, _ =>
              refine RegionOwn.quiet rfl rfl hK rfl rfl ?_
              clear hK hD hfr
              unfold RegionOwn.T at e5
              go_simp
            | 10, _ =>
              refine RegionOwn.quiet rfl rfl hK rfl rfl ?_
              have q : RegionOwn.T y 41 = fv := hD 8 41 (by decide) rfl (by kernel_rfl) (.inl rfl)
              have q1 : RegionOwn.T y 42 = .int .i64 i0 := hD 9 42 (by decide) rfl (by kernel_rfl) (.inl rfl)
              rw [efv] at q
              rw [erv]
              clear hK hD hfr e0 e1 e5
              unfold RegionOwn.T at q q1
              go_simp
            | 11, _ =>
              have q : x.ownsRow w.heap.size 9 1 (RegionOwn.T y 40) (i0 + 1) ((xs.take i0).map Value.string ++ [.string h]) := hD 7 40 (by decide) rfl (by kernel_rfl) (.inr rfl)
              have q1 : RegionOwn.T y 43 = rv := hD 10 43 (by decide) rfl (by kernel_rfl) (.inl rfl)
              exact RegionOwn.appended (j := 7) (k := xs.length - i0) (ys := (xs.drop i0).map Value.string) rfl rfl hK rfl i9 _ 1 16 Tryz.underlying24 hi9 hz0 hz1 hz2 rfl (by decide) (by decide) rfl rfl q hsz (by rw [q1]; exact (HH.out x hbx).2) HONE.out.2 (by simp only [maxLen]; omega) (by omega) fun v z hz => hz
            | i + 12, h => exact absurd h (by omega)
          · intro y x hfr hbx hD
            have q : x.ownsRow w.heap.size 9 1 (RegionOwn.T y 44) (i0 + 1 + (xs.length - i0)) ((xs.take i0).map Value.string ++ [.string h] ++ (xs.drop i0).map Value.string) := hD 11 44 (by decide) rfl (fun i hi e => by cases e; omega)
            refine RegionOwn.list_value (v := RegionOwn.T y 44) (y := x) rfl ?_ ?_
            · clear hD hfr q
              unfold RegionOwn.T
              go_simp
            · have hy := RegionOwn.act_lit y 45 hfr.size
              rw [hfr.defers] at hy
              obtain ⟨V, hV⟩ : ∃ V, V = RegionOwn.T y 44 := ⟨_, rfl⟩
              rw [← hV] at q ⊢
              have HQ := hide (And.intro q hbx)
              rw [hy]
              clear hD hfr q hV hbx hy
              simp only [show List.range 45 = [0, 1, 2, 3, 4, 5, 6, 7, 8, 9, 10, 11, 12, 13, 14, 15, 16, 17, 18, 19, 20, 21, 22, 23, 24, 25, 26, 27, 28, 29, 30, 31, 32, 33, 34, 35, 36, 37, 38, 39, 40, 41, 42, 43, 44] from rfl, List.map_cons, List.map_nil]
              go_wp2_with fail
              go_ret
              refine ⟨V, rfl, ?_, HQ.out.2, .inr fun x hx => (HQ.out.1.lt x hx).1⟩
              have hq := HQ.out.1
              have e1 : i0 + 1 + (xs.length - i0) = (ins xs h).length := by rw [HI.out]; simp only [List.length_append, List.length_take, List.length_cons, List.length_drop]; omega
              have e2 : (xs.take i0).map Value.string ++ [.string h] ++ (xs.drop i0).map Value.string = (ins xs h).map Value.string := by rw [HI.out]; simp
              rw [e1, e2] at hq
              exact Hs.of_own hq
end Go.Proofs.YtkbboddibgfjbaaGreatDoor
