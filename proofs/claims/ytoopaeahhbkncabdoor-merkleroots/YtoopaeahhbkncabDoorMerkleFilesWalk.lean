/- The walk of MerkleFiles. -/
import Derived.Test.YtoopaeahhbkncabDoorMerkleAwake
import Derived.Test.YtoopaeahhbkncabDoorChunkText
import Derived.Test.YtoopaeahhbkncabDoorRows2
namespace Go.TwoRows
open Go.RowKit
variable {w0 w : World} {e : TypeId} {v1 v2 : Value} {xs ys : List Value}
theorem list_append {P : Program} {ops : Array Oper} {rest : List Oper} {o : Oper} {a : Act} {Q : Exit → Act → World → Prop}
    (hgd : o.guard = none) (s x : Operand) (t : TypeId) (ho : o.op = .call { callee := .builtin .append, args := #[s, x], argTypes := #[t, t] })
    (i : TypeInfo) (z : Value) (bytes : Nat) (ht : P.underlying t = some (.slice e)) (hi : P.info? e = some i) (hz : i.zero = some z)
    (hsize : i.size = 1) (hby : i.bytes = bytes) (hzs : z.cells.size = 1)
    (hs : a.eval s = v1) (h2 : Two w0 e w v1 xs v2 ys) (g c : Nat) (u : Value) (hx : a.eval x = .slice (some ⟨g, 0, none⟩) 1 c) (hu : w.cell? ⟨g, 0, none⟩ = some u) (h1 : u.oneCell' = true)
    (hlen : (xs.length + 1) * bytes ≤ 140737488355328) (h63 : xs.length + 1 ≤ maxLen)
    (h : ∀ v' w', Two w0 e w' v' (xs ++ [u]) v2 ys → w.grownBy w' v1.ownBlock → wpList P ops Q rest (a.put o.dst v') w') : wpList P ops Q (o :: rest) a w := by
  have hw : Region.wanted o (yielded ops a.tmps) = true := by simp [Region.wanted, hgd]
  have := step_append (ops := ops) (Q := Q) (E := True) hgd s x t ho i z bytes ht hi hz hsize hby hzs hs h2 g c u hx hu h1 hlen h63 h
  unfold wpList
  rw [if_pos hw] at this ⊢
  exact .inl this
theorem own_mono {base base' n : Nat} {v : Value} (h : w.ownsRow base e 1 v n xs) (hb : base' ≤ base) : w.ownsRow base' e 1 v n xs := by
  refine ⟨h.1, ?_⟩
  rcases h.2 with h | ⟨g, cap, cur, h1, h2, h3⟩
  · exact .inl h
  · exact .inr ⟨g, cap, cur, h1, Nat.le_trans hb h2, h3⟩
end Go.TwoRows
namespace Go.Chunk
theorem chunks_few (l : Bs) : 32 * (chunks l).length ≤ l.length + 31 := by
  refine chunks_ind (P := fun l => 32 * (chunks l).length ≤ l.length + 31) (by decide) (fun l h ih => ?_) l
  have hp := List.length_pos_iff.2 h
  rw [chunks_step l h, List.length_cons]
  rw [List.length_drop] at ih
  by_cases hc : cut l < l.length
  · have := cut_min l hc; omega
  · have he : l.drop (cut l) = [] := List.drop_eq_nil_iff.2 (by omega)
    rw [he]
    show 32 * (0 + 1) ≤ _
    omega
theorem chunks_most (l : Bs) : l.length ≤ 512 * (chunks l).length := by
  refine chunks_ind (P := fun l => l.length ≤ 512 * (chunks l).length) (Nat.zero_le _) (fun l h ih => ?_) l
  have := (cut_is l).most
  rw [chunks_step l h, List.length_cons]
  rw [List.length_drop] at ih
  omega
theorem texts_few (s : ByteArray) : 32 * (texts s).length ≤ s.size + 31 := by
  have := chunks_few s.data.toList
  unfold texts
  rw [List.length_map]
  simpa using this
theorem texts_most (s : ByteArray) : s.size ≤ 512 * (texts s).length := by
  have := chunks_most s.data.toList
  unfold texts
  rw [List.length_map]
  simpa using this
theorem texts_size (s : ByteArray) : ∀ x ∈ texts s, x.size ≤ 512 := by
  unfold texts
  refine chunks_ind (P := fun l => ∀ x ∈ (chunks l).map txt, x.size ≤ 512) (fun x hx => by rw [show chunks [] = [] from rfl] at hx; cases hx) (fun l h ih => ?_) s.data.toList
  intro x hx
  rw [chunks_step l h, List.map_cons] at hx
  rcases List.mem_cons.1 hx with rfl | hx
  · have := (cut_is l).most
    show (l.take (cut l)).toArray.size ≤ 512
    rw [List.size_toArray, List.length_take]
    omega
  · exact ih x hx
end Go.Chunk
namespace Go.Proofs.YtoopaeahhbkncabDoor
open Go.RowKit Go.Shelf Go.Wire Go.Mk Go.Chunk
attribute [local go_sem] Oper.semAt_some
set_option maxHeartbeats 1000000 in
theorem of_many (s : ByteArray) (w : World) (hs : 8192 < s.size) :
    Calls Tryd.prog 18 #[.string s] w fun e w' => e = .returned (.tuple #[.agg #[.int .i64 0, .slice none 0 0], .int .i64 3]) ∧ Below w.heap.size w w' := by
  have hs' : (8192 : Int) < s.size := by omega
  have hb := (Below.refl _ w).alloc (Nat.le_refl _) (.cells #[.int .i64 0, .slice none 0 0] 42)
  have hr : (w.alloc (.cells #[.int .i64 0, .slice none 0 0] 42)).heap[w.heap.size]? = some (.cells #[.int .i64 0, .slice none 0 0] 42 (0, 0)) := heap_alloc_new _ _
  have HB := hide (And.intro hb hr)
  clear hb hr
  refine (callsIn_wide (n := 9)).1 ?_
  refine callsIn_of_wp_marks Tryd.func18 rfl trivial ?_ rfl
  simp only [Tryd.ntmps18, List.size_toArray, List.length_cons, List.length_nil, Nat.reduceAdd, Nat.reduceSub, Array.replicate_succ, Array.replicate_zero, List.push_toArray, List.append_toArray, List.nil_append, List.cons_append]
  gi_wp2_with (fail)
  exact ⟨_, results_cell2_row Tryd.results18 _ _ w.heap.size _ _ (0, 0) _ rfl HB.out.2 Tryd.underlying42 rfl infoMan, rfl, HB.out.1⟩
set_option maxHeartbeats 1000000 in
theorem few9_any (s : ByteArray) (seed n : Int) (w : World) :
    Calls Tryd.prog 5 #[.string s, .int .u64 seed, .int .i64 n] w fun e w' => (∃ t : ByteArray, t.size ≤ 8193 ∧ e = .returned (.string t)) ∧ Below w.heap.size w w' := by
  obtain ⟨q, hq⟩ : ∃ q : Nat, (n.tmod 8194 + 8194).tmod 8194 = q := by
    have h1 := Int.tmod_lt_of_pos n (show (0 : Int) < 8194 by decide)
    have h2 := Int.lt_tmod_of_pos n (show (0 : Int) < 8194 by decide)
    have h3 := Int.tmod_nonneg (a := n.tmod 8194 + 8194) 8194 (by omega)
    exact ⟨((n.tmod 8194 + 8194).tmod 8194).toNat, by omega⟩
  have hq2 : q < 8194 := by
    have := Int.tmod_lt_of_pos (n.tmod 8194 + 8194) (show (0 : Int) < 8194 by decide)
    omega
  have HT := hide (fun (w' : World) => ctext_any seed q w' (by omega))
  have hw : wrap64 (n.tmod 8194 + 8194) = n.tmod 8194 + 8194 := by
    have h1 := Int.tmod_lt_of_pos n (show (0 : Int) < 8194 by decide)
    have h2 := Int.lt_tmod_of_pos n (show (0 : Int) < 8194 by decide)
    unfold wrap64; omega
  by_cases h5 : (500 : Int) < s.size
  · go_enter Tryd.func5, Tryd.ntmps5
    go_wp2_with fail
    refine (HT.out _).mono ?_
    rintro e w1 ⟨⟨t, ht, rfl⟩, hb⟩
    have HB := hide hb
    clear hb
    have hA : (s.extract 0 500).size ≤ 500 := by simp; omega
    generalize s.extract 0 500 = A at *
    have hAt : (A ++ t).size = A.size + q := by rw [Sha.app_size, ht]
    by_cases h8 : (8193 : Int) < ((A ++ t).size : Nat)
    · have h8' : 8193 < (A ++ t).size := by omega
      have hx : ((A ++ t).extract 0 8193).size = 8193 := by simp at h8' ⊢; omega
      have HX := hide hx
      clear hx
      go_wp2_with fail
      go_ret
      exact ⟨⟨_, Nat.le_of_eq HX.out, rfl⟩, HB.out⟩
    · have h8' : (A ++ t).size ≤ 8193 := by omega
      go_wp2_with fail
      go_ret
      exact ⟨⟨_, h8', rfl⟩, HB.out⟩
  · go_enter Tryd.func5, Tryd.ntmps5
    go_wp2_with fail
    refine (HT.out _).mono ?_
    rintro e w1 ⟨⟨t, ht, rfl⟩, hb⟩
    have HB := hide hb
    clear hb
    have hA : s.size ≤ 500 := by omega
    generalize s = A at *
    have hAt : (A ++ t).size = A.size + q := by rw [Sha.app_size, ht]
    by_cases h8 : (8193 : Int) < ((A ++ t).size : Nat)
    · have h8' : 8193 < (A ++ t).size := by omega
      have hx : ((A ++ t).extract 0 8193).size = 8193 := by simp at h8' ⊢; omega
      have HX := hide hx
      clear hx
      go_wp2_with fail
      go_ret
      exact ⟨⟨_, Nat.le_of_eq HX.out, rfl⟩, HB.out⟩
    · have h8' : (A ++ t).size ≤ 8193 := by omega
      go_wp2_with fail
      go_ret
      exact ⟨⟨_, h8', rfl⟩, HB.out⟩
theorem two_below {w0 w w' : World} {e : TypeId} {v1 v2 : Value} {xs ys : List Value} (h : TwoRows.Two w0 e w v1 xs v2 ys) (hb : Below w.heap.size w w') : TwoRows.Two w0 e w' v1 xs v2 ys :=
  ⟨own_below h.1 hb, own_below h.2.1 hb, h.2.2.1, h.2.2.2.trans (hb.mono h.2.2.2.size)⟩
set_option maxHeartbeats 1000000 in
set_option maxRecDepth 100000 in
theorem rof_any (s : ByteArray) (w : World) (hs : s.size ≤ 8192) :
    Calls Tryd.prog 6 #[.string s] w fun e w' => ∃ v, e = .returned v ∧ w'.ownsRow w.heap.size 9 1 v (texts s).length (((texts s).map digest).map Value.string) ∧ Below w.heap.size w w' := by
  obtain ⟨i9, hi9, hz0, hz1, hz2⟩ := info_parts ciInfo9
  have htl := texts_length s
  have hts := texts_size s
  have HL := hide (fun (w' : World) => rlist_any s w' (by omega))
  have HD := hide (fun (x : ByteArray) (w' : World) (hx : x ∈ texts s) => rdigest_any x w' (by have := hts x hx; omega))
  clear hts
  generalize texts s = xs at *
  obtain ⟨DD, HDD, HDL⟩ : ∃ DD : Nat → List Value, Hid (∀ i, DD i = ((xs.take i).map digest).map Value.string) ∧ Hid (∀ i, i ≤ xs.length → (DD i).length = i) := ⟨fun i => ((xs.take i).map digest).map Value.string, fun _ => rfl, fun i hi => by show (((xs.take i).map digest).map Value.string).length = i; rw [List.length_map, List.length_map, List.length_take_of_le hi]⟩
  obtain ⟨DF, HDF⟩ : ∃ DF : List Value, Hid (DF = (xs.map digest).map Value.string) := ⟨_, rfl⟩
  rw [← HDF.out]
  obtain ⟨XV, HXV⟩ : ∃ XV : List Value, Hid (XV = xs.map Value.string) := ⟨_, rfl⟩
  rw [← HXV.out] at HL
  go_enter Tryd.func6, Tryd.ntmps6
  go_wp2_with (go_at_call 16; refine (HL.out _).mono ?_; rintro e w1 ⟨v, rfl, hown, hb⟩; obtain ⟨va, vc, rfl⟩ := own_slice hown
               have HT0 := hide (show TwoRows.Two w 9 w1 (.slice (some ⟨w.heap.size, 0, none⟩) 0 0) [] (.slice va xs.length vc) XV from ⟨own_below (World.ownsRow_made w #[] 0 (Nat.le_refl _) (Nat.zero_le _) rfl) hb, (by have := TwoRows.own_mono hown (base' := w.heap.size) (by simp); rw [HXV.out, List.length_map]; rw [HXV.out] at this; exact this), .inr (fun e => by have := own_base hown e.symm; simp at this; omega), ((Below.refl _ w).alloc (Nat.le_refl _) _).trans (hb.mono (by simp))⟩)
               clear hown hb)
  go_loopw [3, 5] (fun vo vi wr => ∃ i : Nat, i ≤ xs.length ∧ vi = .int .i64 i ∧ Hid (TwoRows.Two w 9 wr vo (DD i) (.slice va xs.length vc) XV)) (fun _ vi _ => 8192 - (intOf vi).toNat)
  case atStart => exact ⟨0, Nat.zero_le _, rfl, by rw [HDD.out 0]; exact HT0.out⟩
  case round =>
    clear HT0
    obtain ⟨i, hi, rfl, HH⟩ := hrel
    have hdi := HDL.out i hi
    have hso := HH.out.1
    rw [hdi] at hso
    obtain ⟨oa, oc, hvo⟩ := own_slice hso
    subst hvo
    clear hso
    by_cases hlt : i < xs.length
    · have hlt' : (i : Int) < xs.length := by omega
      have hrd := StrRow.Reads.of_own (xs := xs) (show wr.ownsRow w.heap.size 9 1 (.slice va xs.length vc) XV.length (xs.map Value.string) from HXV.out ▸ HH.out.2.1)
      obtain ⟨b, off, cap, hv, hcap, hbl⟩ := hrd.at (by intro h; rw [h] at hlt; simp at hlt)
      simp only [Value.slice.injEq, true_and] at hv
      obtain ⟨rfl, rfl⟩ := hv
      obtain ⟨x, hx⟩ : ∃ x, xs[i]? = some x := ⟨_, List.getElem?_eq_getElem hlt⟩
      have hcell := hrd.cell hx
      have HDx := hide (fun (w' : World) => HD.out x w' (List.mem_of_getElem? hx))
      have HT : Hid (DD (i + 1) = DD i ++ [.string (digest x)]) := by show _ = _; rw [HDD.out, HDD.out, List.take_add_one, hx]; simp
      clear hx hrd
      generalize digest x = D at *
      go_wp2_with (first
        | (go_at_call 17; refine (HDx.out _).mono ?_; rintro e w2 ⟨rfl, hb2⟩; have HB2 := hide (two_below HH.out hb2); clear hb2)
        | (at_builtin; refine TwoRows.list_append rfl _ _ 24 rfl i9 (.string ⟨#[]⟩) 16 ciUnder24 hi9 hz0 hz1 hz2 rfl rfl (HB2.out.alloc _) w2.heap.size 1 (.string D) rfl (TwoRows.cell_new w2 _ _) rfl (by rw [hdi]; omega) (by rw [hdi]; unfold maxLen; omega) ?_))
      intro v' w3 h2 _
      have H3 := hide h2
      clear h2
      rw [← HT.out] at H3
      go_wp2
      go_roundw
      case rel => exact ⟨i + 1, by omega, by go_num, H3.out⟩
      case measure => simp [intOf]; omega
    · have hlt' : ¬ ((i : Int) < xs.length) := by omega
      have hin : i = xs.length := by omega
      subst hin
      have HF : Hid (wr.ownsRow w.heap.size 9 1 (.slice oa xs.length oc) xs.length DF ∧ Below w.heap.size w wr) := by
        have h1 := HH.out.1
        rw [hdi, HDD.out, List.take_of_length_le (Nat.le_refl _), ← HDF.out] at h1
        exact ⟨h1, HH.out.2.2.2⟩
      go_wp2_with fail
      go_ret
      exact ⟨_, rfl, HF.out.1, HF.out.2⟩
/-- The manifest in its block, its digests and the document's. -/
structure Mf (W : World) (B : Nat) (cs : Array Value) (T : TypeId) (u v : Value) (ds : List ByteArray) (w : World) : Prop where
  box : Bx W B cs T w
  one : StrRow.Reads w u ds
  two : StrRow.Reads w v ds
theorem Mf.step {W : World} {B : Nat} {cs : Array Value} {T : TypeId} {u v : Value} {ds : List ByteArray} {w w' : World} (h : Mf W B cs T u v ds w) (k : Below w.heap.size w w') : Mf W B cs T u v ds w' :=
  ⟨h.box.step k, h.one.below k (Nat.le_refl _), h.two.below k (Nat.le_refl _)⟩
end Go.Proofs.YtoopaeahhbkncabDoor
