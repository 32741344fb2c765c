/- Contracts of the digest of parts for a purpose. -/
import Derived.Test.YtcfjlnceofdcdaaDoorRows
import Derived.Test.YtcfjlnceofdcdaaDoorShaRefParts
import Derived.Test.YtcfjlnceofdcdaaDoorShaNumberOwn
import Derived.Test.YtcfjlnceofdcdaaDoorStrs
import Derived.Test.YtcfjlnceofdcdaaDoorShaMath4
import Derived.WalkKit
import Derived.WalkSpells
import Derived.WalkLawsBesides
import Derived.Deep.QuietTactic
import Derived.Deep.RegionWith
import Derived.Test.YtcfjlnceofdcdaaDoorTail
import Derived.BigQuiet
import Derived.Deep.WholeRow
import Derived.Lib.QuietBelow
import Derived.Lib.AppendStr
namespace Go.Proofs.YtcfjlnceofdcdaaDoor
open Go.RowKit
open Go.Sort
theorem ShaW.flat_le : ∀ ys : List ByteArray, (∀ s ∈ ys, s.size ≤ 700) → (ys.map fun s => s.data.toList).flatten.length ≤ 700 * ys.length := by
  intro ys
  induction ys with
  | nil => intro _; simp
  | cons y ys ih =>
    intro h
    have h1 := ih (fun s hs => h s (by simp [hs]))
    have h2 := h y (by simp)
    have h3 : y.data.toList.length = y.size := by simp
    rw [List.map_cons, List.flatten_cons, List.length_append, h3, List.length_cons]
    omega
theorem ShaW.parts_le (p : UInt8) (xs : List ByteArray) (hn : xs.length ≤ 8) (hx : ∀ s ∈ xs, s.size ≤ 700) : (Sha.parts p (xs.map fun s => s.data.toList)).length ≤ 6000 := by
  have h4 := ShaW.flat_le xs hx
  unfold Sha.parts
  rw [List.length_append, List.length_append, List.length_append, Sha.be_length, Sha.lens_length, List.length_map]
  have h5 : [p].length = 1 := rfl
  omega
set_option maxRecDepth 100000 in
set_option maxHeartbeats 1000000 in
theorem rtagged_any (p : UInt8) (v : Value) (xs : List ByteArray) (w : World) (hr : StrRow.Reads w v xs) (hn : xs.length ≤ 8) (hx : ∀ s ∈ xs, s.size ≤ 700) :
    Calls Tryd.prog 23 #[.int .u8 p.toNat, v] w fun e w' => e = .returned (.string ⟨(Sha.sum (Sha.parts p (xs.map fun s => s.data.toList))).toArray⟩) ∧ Below w.heap.size w w' := by
  have hl := ShaW.parts_le p xs hn hx
  go_enter Tryd.func23, Tryd.ntmps23
  go_wp2_with fail
  refine (rparts_any p v xs w hr hn hx).mono ?_
  rintro e w1 ⟨rfl, hb1⟩
  generalize hT : Sha.parts p (xs.map fun s => s.data.toList) = T at *
  have HT : Hid (Sha.parts p (xs.map fun s => s.data.toList) = T) := hT
  clear hT hr
  go_wp2_with fail
  refine (rsum_any ⟨T.toArray⟩ _ (by show T.toArray.size ≤ _; rw [List.size_toArray]; omega)).mono ?_
  rintro e w2 ⟨rfl, hb2⟩
  go_wp2
  go_ret
  exact ⟨by rw [HT.out]; rfl, hb1.trans (hb2.mono hb1.size)⟩
set_option maxRecDepth 100000 in
set_option maxHeartbeats 1000000 in
theorem tagged_any (p : UInt8) (v : Value) (xs : List ByteArray) (w : World) (hr : StrRow.Reads w v xs) (hn : xs.length ≤ 8) (hx : ∀ s ∈ xs, s.size ≤ 700) (hst : Steps w) :
    Calls Tryd.prog 21 #[.int .u8 p.toNat, v] w fun e w' => e = .returned (.string ⟨(Sha.sum (Sha.parts p (xs.map fun s => s.data.toList))).toArray⟩) ∧ Below w.heap.size w w' := by
  have hl := ShaW.parts_le p xs hn hx
  obtain ⟨i0, hif, hz0, hz1, hz2⟩ := info_parts info5
  obtain ⟨a, c, rfl⟩ := hr.form
  have HR : Hid (StrRow.Reads w (.slice a xs.length c) xs ∧ Steps w) := ⟨hr, hst⟩
  clear hr hst
  have hn2 : (xs.length : Int) ≤ 8 := by omega
  go_enter Tryd.func21, Tryd.ntmps21
  go_wp2_with fail
  refine (number_own w.heap.size _ [p] xs.length 4 _ (World.ownsRow_lit w #[.int .u8 p.toNat] 1 (Nat.le_refl _) (by unfold maxLen; omega) rfl) (by simp) (by simp) (by omega)).mono ?_
  rintro e w1 ⟨v1, rfl, hh1, hb1⟩
  have H1 : Hid (w1.ownsRow w.heap.size 5 1 v1 ([p] ++ Sha.be xs.length 4).length (([p] ++ Sha.be xs.length 4).map Sha.byteV) ∧ Below w.heap.size w w1) := ⟨hh1, ((Below.refl _ _).alloc (Nat.le_refl _) _).trans hb1⟩
  clear hh1 hb1
  go_wp2_with fail
  go_loopw [5, 18] (fun vb vi wr => ∃ (i : Nat), i ≤ xs.length ∧ vi = .int .i64 i ∧ Hid (wr.ownsRow w.heap.size 5 1 vb ([p] ++ Sha.be xs.length 4 ++ Sha.lens ((xs.take i).map fun s => s.data.toList)).length (([p] ++ Sha.be xs.length 4 ++ Sha.lens ((xs.take i).map fun s => s.data.toList)).map Sha.byteV) ∧ Below w.heap.size w wr)) (fun _ vi _ => 8 - (intOf vi).toNat)
  case atStart => exact ⟨0, by omega, rfl, by have h := H1.out; show _ ∧ _; simpa [Sha.lens] using h⟩
  case round =>
    clear H1
    obtain ⟨i, hi, rfl, HH⟩ := hrel
    by_cases hlt : i < xs.length
    · obtain ⟨b, off, cap, hv, hcap, hbl⟩ := HR.out.1.at (by intro h; rw [h] at hlt; simp at hlt)
      simp only [Value.slice.injEq, true_and] at hv
      obtain ⟨rfl, rfl⟩ := hv
      obtain ⟨s, hs⟩ : ∃ s, xs[i]? = some s := ⟨_, List.getElem?_eq_getElem hlt⟩
      have hss : s.size ≤ 700 := hx s (List.mem_of_getElem? hs)
      have hcell : wr.cell? ⟨b, off + i, none⟩ = some (.string s) := (HH.out.2.cell (p := ⟨b, off + i, none⟩) hbl).trans (HR.out.1.cell hs)
      have HT : Hid ((xs.take (i + 1)).map (fun s => s.data.toList) = (xs.take i).map (fun s => s.data.toList) ++ [s.data.toList]) := by
        show _ = _
        rw [List.take_add_one, hs]; simp
      clear hs
      have hlt2 : (i : Int) < xs.length := by omega
      have HL : Hid (([p] ++ Sha.be xs.length 4 ++ Sha.lens ((xs.take i).map fun s => s.data.toList)).length ≤ 1000000) := by
        show _ ≤ _
        rw [List.length_append, List.length_append, Sha.be_length, Sha.lens_length, List.length_map, List.length_take_of_le hi]
        have : [p].length = 1 := rfl
        omega
      generalize hLL : [p] ++ Sha.be xs.length 4 ++ Sha.lens ((xs.take i).map fun s => s.data.toList) = L at HH HL
      have HLL : Hid (L ++ Sha.be s.size 4 = [p] ++ Sha.be xs.length 4 ++ Sha.lens ((xs.take (i + 1)).map fun s => s.data.toList)) := by
        have e1 := HT.out
        show _ = _
        rw [e1, Sha.lens_snoc, ← List.append_assoc, hLL, show s.data.toList.length = s.size by simp]
      clear hLL HT
      go_wp2_with fail
      refine (number_own w.heap.size _ L s.size 4 _ HH.out.1 HH.out.2.size HL.out (by omega)).mono ?_
      rintro e w2 ⟨v2, rfl, hh2, hb2⟩
      have H2 : Hid (w2.ownsRow w.heap.size 5 1 v2 ([p] ++ Sha.be xs.length 4 ++ Sha.lens ((xs.take (i + 1)).map fun s => s.data.toList)).length (([p] ++ Sha.be xs.length 4 ++ Sha.lens ((xs.take (i + 1)).map fun s => s.data.toList)).map Sha.byteV) ∧ Below w.heap.size w w2) := by
        have e1 := HLL.out
        rw [← e1]
        exact ⟨hh2, HH.out.2.trans hb2⟩
      clear hh2 hb2
      go_wp2
      go_roundw
      case rel => exact ⟨i + 1, by omega, by go_num, H2.out⟩
      case measure => simp [intOf]; omega
    · have hin : i = xs.length := by omega
      subst hin
      rw [List.take_of_length_le (Nat.le_refl _)] at HH
      go_wp2_with fail
      go_loopw [5, 30] (fun vb vi wr => ∃ (i : Nat), i ≤ xs.length ∧ vi = .int .i64 i ∧ Hid (wr.ownsRow w.heap.size 5 1 vb ([p] ++ Sha.be xs.length 4 ++ Sha.lens (xs.map fun s => s.data.toList) ++ ((xs.take i).map fun s => s.data.toList).flatten).length (([p] ++ Sha.be xs.length 4 ++ Sha.lens (xs.map fun s => s.data.toList) ++ ((xs.take i).map fun s => s.data.toList).flatten).map Sha.byteV) ∧ Below w.heap.size w wr)) (fun _ vi _ => 8 - (intOf vi).toNat)
      case atStart => exact ⟨0, by omega, rfl, by have h := HH.out; show _ ∧ _; simpa using h⟩
      case round =>
        clear HH hlt
        obtain ⟨i, hi', rfl, HH⟩ := hrel
        by_cases hlt : i < xs.length
        · obtain ⟨b, off, cap, hv, hcap, hbl⟩ := HR.out.1.at (by intro h; rw [h] at hlt; simp at hlt)
          simp only [Value.slice.injEq, true_and] at hv
          obtain ⟨rfl, rfl⟩ := hv
          obtain ⟨s, hs⟩ : ∃ s, xs[i]? = some s := ⟨_, List.getElem?_eq_getElem hlt⟩
          have hss : s.size ≤ 700 := hx s (List.mem_of_getElem? hs)
          have hcell : wr.cell? ⟨b, off + i, none⟩ = some (.string s) := (HH.out.2.cell (p := ⟨b, off + i, none⟩) hbl).trans (HR.out.1.cell hs)
          have HT : Hid ((xs.take (i + 1)).map (fun s => s.data.toList) = (xs.take i).map (fun s => s.data.toList) ++ [s.data.toList]) := by
            show _ = _
            rw [List.take_add_one, hs]; simp
          clear hs
          have hlt2 : (i : Int) < xs.length := by omega
          have HL : Hid (([p] ++ Sha.be xs.length 4 ++ Sha.lens (xs.map fun s => s.data.toList) ++ ((xs.take i).map fun s => s.data.toList).flatten).length ≤ 6000) := by
            show _ ≤ _
            rw [List.length_append, List.length_append, List.length_append, Sha.be_length, Sha.lens_length, List.length_map]
            have h2 := ShaW.flat_le (xs.take i) (fun s hs => hx s (List.mem_of_mem_take hs))
            rw [List.length_take_of_le hi'] at h2
            have h3 : [p].length = 1 := rfl
            omega
          generalize hLL : [p] ++ Sha.be xs.length 4 ++ Sha.lens (xs.map fun s => s.data.toList) ++ ((xs.take i).map fun s => s.data.toList).flatten = L at HH HL
          have HLL : Hid (L ++ s.data.toList = [p] ++ Sha.be xs.length 4 ++ Sha.lens (xs.map fun s => s.data.toList) ++ ((xs.take (i + 1)).map fun s => s.data.toList).flatten) := by
            have e1 := HT.out
            show _ = _
            rw [e1, List.flatten_append, ← List.append_assoc, hLL]; simp
          clear hLL HT
          go_wp2_with (at_builtin; refine Lib.wpList_append_own_string _ rfl _ _ 40 9 rfl w.heap.size 5 i0 under46 under9 hif hz0 hz1 hz2 _ _ _ rfl HH.out.1 s rfl ?_ ?_ ?_ ?_)
          · have := HL.out; unfold maxLen; omega
          · have := HL.out; omega
          · exact HH.out.2.size
          · intro v2 w2 hh2 hg2 _
            have hrow : Hid (∀ k, u5.ownBlock = some k → w.heap.size ≤ k) := fun k hk => (HH.out.1.lt k hk).1
            have H2 : Hid (w2.ownsRow w.heap.size 5 1 v2 ([p] ++ Sha.be xs.length 4 ++ Sha.lens (xs.map fun s => s.data.toList) ++ ((xs.take (i + 1)).map fun s => s.data.toList).flatten).length (([p] ++ Sha.be xs.length 4 ++ Sha.lens (xs.map fun s => s.data.toList) ++ ((xs.take (i + 1)).map fun s => s.data.toList).flatten).map Sha.byteV) ∧ Below w.heap.size w w2) := by
              have e1 := HLL.out
              rw [← e1]
              refine ⟨?_, HH.out.2.grown hg2 HH.out.2.size hrow.out⟩
              have e2 : (L ++ s.data.toList).length = L.length + s.size := by simp
              rw [e2, List.map_append]
              exact hh2
            clear hh2 hg2
            go_wp2
            go_roundw
            case rel => exact ⟨i + 1, by omega, by go_num, H2.out⟩
            case measure => simp [intOf]; omega
        · have hin : i = xs.length := by omega
          subst hin
          rw [List.take_of_length_le (Nat.le_refl _)] at HH
          have HF : Hid (ByteRow.Has w.heap.size wr u5 (Sha.parts p (xs.map fun s => s.data.toList)) ∧ Below w.heap.size w wr ∧ Steps wr) := by
            refine ⟨?_, HH.out.2, Steps.by HH.out.2 HR.out.2.pos HR.out.2⟩
            have h1 := ByteRow.Has.of_own HH.out.1
            unfold Sha.parts
            rw [List.length_map]
            exact h1
          clear HH
          generalize hT : Sha.parts p (xs.map fun s => s.data.toList) = T at HF hl
          have HT : Hid (Sha.parts p (xs.map fun s => s.data.toList) = T ∧ T ≠ []) := ⟨hT, by rw [← hT]; simp [Sha.parts]⟩
          clear hT
          go_wp2_with (refine ByteRow.to_string _ rfl 40 9 5 _ rfl T rfl HF.out.1 HT.out.2 under46 under5 under9 ?_)
          refine (sum_any ⟨T.toArray⟩ _ (by show T.toArray.size ≤ _; rw [List.size_toArray]; omega) HF.out.2.2).mono ?_
          rintro e w2 ⟨rfl, hb2⟩
          go_wp2
          go_ret
          exact ⟨by rw [HT.out.1]; rfl, HF.out.2.1.trans (hb2.mono HF.out.2.1.size)⟩
end Go.Proofs.YtcfjlnceofdcdaaDoor
