/- Contracts: the chunks of a text, gone over by a function, and listed. -/
import Derived.RangeFuncNested
import Derived.RangeFuncBound
import Derived.RangeFuncCalls
import Derived.RangeFuncLeaves
import Derived.RangeFuncBox
import Derived.Shelf.Abstract
import Derived.Shelf.RegionOpen
import Derived.OwnWalkIn
import Derived.TacticsInMore
import Derived.LoopNIn
import Derived.LoopIn
import Derived.Test.YtoopaeahhbkncaaDoorChunkCut
namespace Go.Chunk
open Go.RowKit
/-- Chunks as texts. -/
def txt (l : Bs) : ByteArray := ⟨l.toArray⟩
def texts (s : ByteArray) : List ByteArray := (chunks s.data.toList).map txt
theorem txt_data (s : ByteArray) : txt s.data.toList = s := by unfold txt; rfl
theorem data_txt (l : Bs) : (txt l).data.toList = l := rfl
theorem txt_take (s : ByteArray) (n : Nat) : txt (s.data.toList.take n) = s.extract 0 n := by
  have := Sha.extract_list s 0 n
  rw [List.drop_zero, Nat.sub_zero] at this
  rw [← this, txt_data]
theorem txt_drop (s : ByteArray) (n : Nat) : txt (s.data.toList.drop n) = s.extract n s.size := by
  rw [← Sha.extract_size s n, txt_data]
theorem texts_step (s : ByteArray) (h : s.size ≠ 0) : texts s = s.extract 0 (cut s.data.toList) :: texts (s.extract (cut s.data.toList) s.size) := by
  have hne : s.data.toList ≠ [] := fun e => h (by have := congrArg List.length e; simpa using this)
  unfold texts
  rw [chunks_step _ hne, List.map_cons, txt_take, ← txt_drop, data_txt]
theorem texts_nil (s : ByteArray) (h : s.size = 0) : texts s = [] := by
  have : s.data.toList = [] := List.length_eq_zero_iff.1 (by simpa using h)
  unfold texts
  rw [this]; rfl
theorem texts_length (s : ByteArray) : (texts s).length ≤ s.size := by
  unfold texts
  rw [List.length_map]
  have := chunks_length s.data.toList
  simpa using this
theorem cut_bytes (s : ByteArray) : cut s.data.toList ≤ s.size := by have := (cut_is s.data.toList).len; simpa using this
theorem cut_some (s : ByteArray) (h : s.size ≠ 0) : 0 < cut s.data.toList := cut_pos _ (by simp; omega)
theorem empty_yes (s : ByteArray) (h : s.size = 0) : s.toList.isEmpty = true := by
  rw [ByteArray.toList_eq, List.isEmpty_iff]
  exact List.length_eq_zero_iff.1 (by simpa using h)
theorem empty_no (s : ByteArray) (h : s.size ≠ 0) : s.toList.isEmpty = false := by
  rw [ByteArray.toList_eq, List.isEmpty_eq_false_iff]
  intro e
  exact h (by have := congrArg List.length e; simpa using this)
end Go.Chunk
namespace Go.Proofs.YtoopaeahhbkncaaDoor
open Go.RowKit Go.Shelf Go.Chunk
attribute [local go_sem] Oper.semAt_some
theorem all_any (s : ByteArray) (w : World) : Calls Tryd.prog 37 #[.string s] w fun e w' => e = .returned (.func (.func 65) #[] #[.pointer (some ⟨w.heap.size, 0, none⟩)]) ∧ w' = w.alloc (.cells #[.string s] 9) := by
  go_enter Tryd.func37, Tryd.ntmps37
  go_wp2
  go_ret
  exact ⟨rfl, rfl⟩
theorem grown_of {w w' : World} (h : Below w.heap.size w w') : w.grownBy w' none := ⟨h.os, h.tape, h.output, h.size, fun k hk _ => h.block k hk⟩
set_option maxHeartbeats 2000000 in
theorem all_in (s : ByteArray) (bx m : Nat) (w0 : World) (hs : s.size ≤ maxLen) (hbx : w0.cell? ⟨bx, 0, none⟩ = some (.string s)) :
    SeqStopsK Fence.wide m Tryd.prog 65 #[.pointer (some ⟨bx, 0, none⟩)] (fun x : ByteArray => #[.string x]) (fun _ _ => True) (fun xs => xs = texts s) (fun pre => pre <+: texts s) (texts s).length w0 := by
  intro l J Jx W hW hJ hJx hY h0
  refine callsIn_of_wp Tryd.func65 rfl trivial ?_ rfl
  simp only [Tryd.ntmps65, List.size_toArray, List.length_cons, List.length_nil, Nat.reduceAdd, Nat.reduceSub, Array.replicate_succ, Array.replicate_zero, List.push_toArray, List.append_toArray, List.nil_append, List.cons_append]
  have hlt : bx < w0.heap.size := by
    rcases Nat.lt_or_ge bx w0.heap.size with h | h
    · exact h
    · simp [World.cell?, Array.getElem?_eq_none h] at hbx
  have hb1 : W.cell? ⟨bx, 0, none⟩ = some (.string s) := (hW.cell (p := ⟨bx, 0, none⟩) hlt).trans hbx
  have HY := hide hY
  have H0 := hide h0
  clear hY h0 hbx
  gi_wp2_with fail
  gi_loopw [3] (fun vs wr => ∃ (r : ByteArray) (pre : List ByteArray), vs = .string r ∧ r.size ≤ s.size ∧ Hid (pre ++ texts r = texts s ∧ J pre wr)) (fun vs _ => match vs with | .string r => r.size | _ => 0)
  case atStart => exact ⟨s, [], rfl, Nat.le_refl _, rfl, H0.out⟩
  case round =>
    obtain ⟨r, pre, rfl, hr, HP⟩ := hrel
    by_cases h0 : r.size = 0
    · have he := empty_yes r h0
      gi_wp2_with fail
      go_end0
      refine ⟨⟨_, rfl⟩, .inl ⟨pre, ?_, HP.out.2⟩⟩
      have := HP.out.1
      rwa [texts_nil r h0, List.append_nil] at this
    · have he := empty_no r h0
      have HCUT := hide (cut_any r wr (by omega))
      have HST := hide (texts_step r h0)
      have hc1 := cut_bytes r
      have hc2 := cut_some r h0
      have hc3 : (cut r.data.toList : Int) ≤ r.size := by omega
      generalize cut r.data.toList = n at *
      have hpl : pre.length < (texts s).length := by
        have := congrArg List.length HP.out.1
        rw [HST.out, List.length_append, List.length_cons] at this
        omega
      obtain ⟨fn, tmps, assign, body, hy, hR⟩ := HY.out pre (r.extract 0 n) wr HP.out.2 hpl
      have hn0 : (0 : Int) ≤ n := by omega
      gi_wp2_with (refine ⟨trivial, fun h => (by cases h), ?_⟩; gi_at_call 66; refine (callsIn_wide.2 HCUT.out).mono ?_; rintro e w1 ⟨rfl, hw⟩; subst hw)
      refine ⟨fun h => (by cases h), hR.mono ?_⟩
      rintro e W3 (⟨rfl, hJ3, hk3⟩ | ⟨rfl, hJx3⟩)
      · have HG := hide hJ3
        clear hJ3 hk3 hR hy
        gi_wp2_with fail
        go_roundw
        case rel =>
          refine ⟨r.extract n r.size, pre ++ [r.extract 0 n], rfl, by simp; omega, ?_, HG.out⟩
          rw [List.append_assoc, List.singleton_append, ← HST.out, HP.out.1]
        case measure => simp; omega
      · clear hR hy
        gi_wp2_with fail
        refine bodyPost_ret (results_none rfl _ _ _) rfl ?_
        refine ⟨⟨_, rfl⟩, .inr ⟨pre ++ [r.extract 0 n], ?_, hJx3⟩⟩
        rw [← HP.out.1, HST.out]
        exact ⟨texts (r.extract n r.size), by rw [List.append_assoc]; rfl⟩
theorem ciInfo9 : (Tryd.prog.info? 9).map (fun i => (i.zero, i.size, i.bytes)) = some (some (.string ⟨#[]⟩), 1, 16) := by kernel_rfl
theorem ciUnder24 : Tryd.prog.underlying 24 = some (.slice 9) := by kernel_rfl
/-- What List keeps between two rounds: a box that holds a slice of its own, with what has come. -/
structure Ls (w : World) (B : Nat) (xs : List ByteArray) (W : World) : Prop where
  box : ∃ v, Boxed W B 24 v ∧ W.ownsRow w.heap.size 9 1 v xs.length (xs.map Value.string)
  below : Below w.heap.size w W
theorem Ls.turned {w : World} {B b : Nat} {xs : List ByteArray} {W W' : World} {row : Option Nat} (h : Ls w B xs W) (hg : W.grownBy W' row) (hr : ∀ r, row = some r → b ≤ r ∧ ∃ o : Obj, W.heap[r]? = some o ∧ o.isCells = false) (hb : w.heap.size ≤ b) : Ls w B xs W' := by
  obtain ⟨v, hv, ho⟩ := h.box
  obtain ⟨v', h1, h2, _⟩ := holdsRow_own (β := Unit) w.heap.size B 24 9 1 (fun _ => xs.length) (fun _ => xs.map Value.string) (fun _ _ => True) () W W' row ⟨v, hv, ho, trivial⟩ hg (fun r e => (hr r e).2)
  exact ⟨⟨v', h1, h2⟩, h.below.grown hg h.below.size fun k e => Nat.le_trans hb (hr k e).1⟩
theorem own_ge {W : World} {base : Nat} {v : Value} {k j : Nat} {xs : List Value} (h : W.ownsRow base 9 1 v k xs) (e : v.ownBlock = some j) : base ≤ j := by
  rcases h.2 with ⟨rfl, _⟩ | ⟨g, cap, cur, rfl, h1, _⟩
  · simp [Value.ownBlock] at e
  · obtain rfl : g = j := by simpa [Value.ownBlock] using e
    exact h1
theorem own_slice {W : World} {base e : Nat} {v : Value} {k : Nat} {xs : List Value} (h : W.ownsRow base e 1 v k xs) : ∃ a c, v = .slice a k c := by
  rcases h.2 with ⟨h1, h2⟩ | ⟨g, cap, cur, h1, _⟩
  · exact ⟨none, 0, by rw [h1, h2]⟩
  · exact ⟨_, _, h1⟩
set_option maxHeartbeats 2000000 in
set_option maxRecDepth 100000 in
theorem rlist_any (s : ByteArray) (w : World) (hs : s.size ≤ 1000000) :
    Calls Tryd.prog 39 #[.string s] w fun e w' => ∃ v, e = .returned v ∧ w'.ownsRow w.heap.size 9 1 v (texts s).length ((texts s).map Value.string) ∧ Below w.heap.size w w' := by
  obtain ⟨i9, hi9, hz0, hz1, hz2⟩ := info_parts ciInfo9
  have htl := texts_length s
  go_enter Tryd.func39, Tryd.ntmps39
  go_wp2
  go_loopw [0, 3] (fun vs vo wr => ∃ (r : ByteArray) (pre : List ByteArray), vs = .string r ∧ r.size ≤ s.size ∧ Hid (pre ++ texts r = texts s) ∧ Hid (wr.ownsRow w.heap.size 9 1 vo pre.length (pre.map Value.string) ∧ Below w.heap.size w wr)) (fun vs _ _ => match vs with | .string r => r.size | _ => 0)
  case atStart => exact ⟨s, [], rfl, Nat.le_refl _, rfl, World.ownsRow_made w #[] 0 (Nat.le_refl _) (Nat.zero_le _) rfl, (Below.refl _ w).alloc (Nat.le_refl _) _⟩
  case round =>
    obtain ⟨r, pre, rfl, hr, HP, HO⟩ := hrel
    obtain ⟨va, vc, hvo⟩ := own_slice HO.out.1
    subst hvo
    by_cases h0 : r.size = 0
    · have he := empty_yes r h0
      have e : pre = texts s := by have := HP.out; rwa [texts_nil r h0, List.append_nil] at this
      subst e
      go_wp2
      go_ret
      exact ⟨_, rfl, HO.out.1, HO.out.2⟩
    · have he := empty_no r h0
      have HCUT := hide (rcut_any r wr (by unfold maxLen; omega))
      have HST := hide (texts_step r h0)
      have hc1 := cut_bytes r
      have hc2 := cut_some r h0
      have hc3 : (cut r.data.toList : Int) ≤ r.size := by omega
      generalize cut r.data.toList = n at *
      have hpl : pre.length < (texts s).length := by
        have := congrArg List.length HP.out
        rw [HST.out, List.length_append, List.length_cons] at this
        omega
      have hn0 : (0 : Int) ≤ n := by omega
      go_wp2_with (first
        | (go_at_call 69; refine HCUT.out.mono ?_; rintro e w1 ⟨rfl, hw⟩; subst hw)
        | (at_builtin; refine wpList_append_own _ rfl _ _ 24 rfl w.heap.size 9 i9 (.string ⟨#[]⟩) 1 16 ciUnder24 hi9 hz0 hz1 hz2 rfl (by decide) _ _ _ rfl (HO.out.1.alloc _) ⟨w1.heap.size, 0, none⟩ 1 1 [.string (r.extract 0 n)] rfl rfl (cell_one_new _ _ _) ?a2 ?a3 ?a4 ?a5 ?_))
      case a2 => intro u hu; simp at hu; subst hu; rfl
      case a3 => unfold maxLen; omega
      case a4 => omega
      case a5 => have h1 := HO.out.2.size; simp; omega
      intro v' w3 hown hgrow _
      have H3 : Hid (w3.ownsRow w.heap.size 9 1 v' (pre ++ [r.extract 0 n]).length ((pre ++ [r.extract 0 n]).map Value.string) ∧ Below w.heap.size w w3) := by
        have hb := HO.out.2
        refine ⟨by rw [List.length_append, List.map_append]; exact hown, (hb.alloc hb.size _).grown hgrow (hb.alloc hb.size _).size fun k e => own_ge HO.out.1 e⟩
      clear hown hgrow
      go_wp2
      go_roundw
      case rel =>
        refine ⟨r.extract n r.size, pre ++ [r.extract 0 n], rfl, by simp; omega, ?_, H3.out⟩
        show _ = _
        rw [List.append_assoc, List.singleton_append, ← HST.out, HP.out]
      case measure => simp; omega
end Go.Proofs.YtoopaeahhbkncaaDoor
