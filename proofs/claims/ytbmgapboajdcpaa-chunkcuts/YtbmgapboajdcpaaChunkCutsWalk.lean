/- The walk of ChunkCuts. -/
import Derived.Test.YtbmgapboajdcpaaChunkSizesWalk
namespace Go.Chunk
theorem joined_snoc (xs : List ByteArray) (x : ByteArray) : joined xs ++ x = joined (xs ++ [x]) := by
  unfold joined
  apply ByteArray.ext
  rw [ByteArray.data_append]
  apply Array.ext'
  simp
theorem toList_inj {x y : ByteArray} (h : x.toList = y.toList) : x = y := by
  rw [ByteArray.toList_eq, ByteArray.toList_eq] at h
  exact ByteArray.ext (Array.ext' h)
theorem prefix_next {xs pre : List ByteArray} {x : ByteArray} (h : pre <+: xs) (hx : xs[pre.length]? = some x) : pre ++ [x] <+: xs := by
  obtain ⟨r, rfl⟩ := h
  rw [List.getElem?_append_right (Nat.le_refl _), Nat.sub_self] at hx
  cases r with
  | nil => cases hx
  | cons y r => cases hx; exact ⟨r, by rw [List.append_assoc]; rfl⟩
theorem prefix_last {xs pre : List ByteArray} {x : ByteArray} (h : pre ++ [x] <+: xs) : xs[pre.length]? = some x := by
  obtain ⟨r, rfl⟩ := h
  rw [List.append_assoc, List.getElem?_append_right (Nat.le_refl _), Nat.sub_self]
  rfl
end Go.Chunk
namespace Go.Proofs.Ytbmgapboajdcpaa
open Go.RowKit Go.Shelf Go.Chunk
attribute [local go_sem] Oper.semAt_some
theorem Boxed.under {w w' : World} {B : Nat} {t : TypeId} {v : Value} (h : Boxed w B t v) (k : Below w.heap.size w w') : Boxed w' B t v := (k.block B h.lt).trans h
theorem keeps_others {w w' : World} (h : Below w.heap.size w w') : KeepsOthers w w' := ⟨h.size, fun k _ hk _ => (h.block k (Array.getElem?_eq_some_iff.1 hk).1).trans hk⟩
/-- What stands while the chunks are gone over. -/
structure Sd (w : World) (B : Nat) (vl vw : Value) (xs : List ByteArray) (W : World) : Prop where
  r : Boxed W w.heap.size 4 (.bool false)
  b1 : Boxed W B 24 vl
  b2 : Boxed W (B + 1) 24 vw
  l : StrRow.Reads W vl xs
  wt : StrRow.Reads W vw xs
  below : Below w.heap.size w W
theorem Sd.under {w : World} {B : Nat} {vl vw : Value} {xs : List ByteArray} {W W' : World} (h : Sd w B vl vw xs W) (k : Below W.heap.size W W') : Sd w B vl vw xs W' :=
  ⟨Boxed.under h.r k, Boxed.under h.b1 k, Boxed.under h.b2 k, h.l.below k (Nat.le_refl _), h.wt.below k (Nat.le_refl _), h.below.trans (k.mono h.below.size)⟩
/-- .. and what turns. -/
structure Cc (w4 : World) (s : ByteArray) (n : Int) (W : World) : Prop where
  b3 : Boxed W w4.heap.size 9 (.string s)
  b4 : Boxed W (w4.heap.size + 1) 3 (.int .i64 n)
  below : Below w4.heap.size w4 W
theorem Cc.turned {w4 : World} {s : ByteArray} {n : Int} {b : Nat} {W W' : World} {row : Option Nat} (h : Cc w4 s n W) (hg : W.grownBy W' row) (hr : ∀ r, row = some r → b ≤ r ∧ ∃ o : Obj, W.heap[r]? = some o ∧ o.isCells = false) (hb : w4.heap.size ≤ b) : Cc w4 s n W' :=
  ⟨h.b3.kept hg (boxed_row h.b3 fun r e => (hr r e).2), h.b4.kept hg (boxed_row h.b4 fun r e => (hr r e).2), h.below.grown hg h.below.size fun k e => Nat.le_trans hb (hr k e).1⟩
theorem Cc.set {w4 : World} {s : ByteArray} {n : Int} {W : World} (h : Cc w4 s n W) (s' : ByteArray) (n' : Int) : Cc w4 s' n' ((W.setCell ⟨w4.heap.size, 0, none⟩ (.string s')).setCell ⟨w4.heap.size + 1, 0, none⟩ (.int .i64 n')) :=
  ⟨(h.b3.set _).other (by omega) _, (h.b4.other (by omega) _).set _, (h.below.setCell (p := ⟨w4.heap.size, 0, none⟩) (Nat.le_refl _) _).setCell (p := ⟨w4.heap.size + 1, 0, none⟩) (by simp) _⟩
set_option maxRecDepth 100000 in
set_option maxHeartbeats 4000000 in
theorem chunkCuts_any (s : ByteArray) (seed n : Int) (w : World) (hs : s.size ≤ maxLen) : Calls Try.prog 3 #[.string s, .int .u64 seed, .int .i64 n] w fun e w' => e = .returned (.bool true) ∧ Below w.heap.size w w' := by
  obtain ⟨Wa, hWa⟩ : ∃ Wa, w.alloc (.cells #[.bool false] 4) = Wa := ⟨_, rfl⟩
  have HR0 : Hid (Boxed Wa w.heap.size 4 (.bool false) ∧ Below w.heap.size w Wa) := by rw [← hWa]; exact ⟨Boxed.new w 4 _, (Below.refl _ w).alloc (Nat.le_refl _) _⟩
  have HF := hide (few_any s seed n Wa hs)
  refine (callsIn_wide (n := 9)).1 ?_
  refine callsIn_of_wp_marks Try.func3 rfl trivial ?_ rfl
  simp only [Try.ntmps3, List.size_toArray, List.length_cons, List.length_nil, Nat.reduceAdd, Nat.reduceSub, Array.replicate_succ, Array.replicate_zero, List.push_toArray, List.append_toArray, List.nil_append, List.cons_append]
  gi_wp2_with (first
    | (refine ⟨trivial, ?_⟩; gi_at_call 9; refine (callsIn_wide.2 HF.out).mono ?_; rintro e w1 ⟨⟨t, ht, rfl⟩, hb⟩; have HB1 := hide hb; have HL := hide (list_any t w1 (by omega)); clear hb)
    | (refine ⟨trivial, ?_⟩; gi_at_call 10; refine (callsIn_wide.2 HL.out).mono ?_; rintro e w2 ⟨vl, rfl, hown, hb⟩; have HB2 := hide hb; have HRL := hide (own_reads hown); have HRW := hide (rlist_any t w2 (by omega)); obtain ⟨la, lc, hvl⟩ := own_slice hown; subst hvl; clear hb hown HL)
    | (refine ⟨trivial, ?_⟩; gi_at_call 11; refine (callsIn_wide.2 HRW.out).mono ?_; rintro e w3 ⟨vw, rfl, hown, hb⟩; have HB3 := hide hb; have HWL := hide (own_reads hown); obtain ⟨wa, wc, hvw⟩ := own_slice hown; subst hvw; clear hb hown HRW
       have HS3 : Hid (Sd w w3.heap.size (.slice la (texts t).length lc) (.slice wa (texts t).length wc) (texts t) ((w3.alloc (Obj.cells #[Value.slice la (texts t).length lc] 24)).alloc (Obj.cells #[Value.slice wa (texts t).length wc] 24))) := (by
         have k1 := HB1.out
         have k2 := k1.trans (HB2.out.mono k1.size)
         have k3 := k2.trans (HB3.out.mono k2.size)
         have k4 : Below w3.heap.size w3 ((w3.alloc (Obj.cells #[Value.slice la (texts t).length lc] 24)).alloc (Obj.cells #[Value.slice wa (texts t).length wc] 24)) := ((Below.refl _ w3).alloc (Nat.le_refl _) _).alloc (by simp) _
         have k5 := k3.trans (k4.mono k3.size)
         exact ⟨Boxed.under HR0.out.1 k5, (Boxed.new w3 24 _).alloc _, (by have := Boxed.new (w3.alloc (Obj.cells #[Value.slice la (texts t).length lc] 24)) 24 (Value.slice wa (texts t).length wc); rw [World.size_alloc] at this; exact this), (HRL.out.below HB3.out (Nat.le_refl _)).below k4 (Nat.le_refl _), HWL.out.below k4 (Nat.le_refl _), HR0.out.2.trans (k5.mono HR0.out.2.size)⟩))
    | (refine ⟨trivial, ?_⟩; gi_at_call 12; refine (callsIn_wide.2 (awake_any _)).mono ?_; rintro e w4 ⟨rfl, hb⟩; have HS := hide (HS3.out.under hb); have q1 := HS.out.b1.cell; have q2 := HS.out.b2.cell; clear hb HS3)
    | (refine ⟨trivial, ?_⟩; gi_at_call 13; refine (callsIn_wide.2 (all_any t _)).mono ?_; rintro e w5 ⟨rfl, rfl⟩))
  clear HB1 HB2 HB3 HRL HWL HF HR0 hWa
  have htl := texts_length t
  have HAT := hide (fun x i => texts_at t x i)
  have HJT : Hid (joinT (texts t) = t ∧ joinB (texts t) = true) := by
    have h := tot_texts t
    exact ⟨by rw [joinT, if_pos (by omega), joined_texts], decide_eq_true (by omega)⟩
  have HJJ := hide (joined_texts t)
  have HTP : Hid (∀ pre, pre <+: texts t → tot pre ≤ 1623) := fun pre ⟨r, hr⟩ => by
    have h := tot_texts t
    rw [← hr] at h
    have : tot (pre ++ r) = tot pre + tot r := by unfold tot; rw [List.map_append, List.sum_append]
    omega
  generalize hxs : texts t = xs at *
  have c3 := (Boxed.new ((w4.alloc (.cells #[.string ⟨#[]⟩] 9)).alloc (.cells #[.int .i64 0] 3)) 9 (.string t)).cell
  simp only [World.size_alloc] at c3
  have G0 : Cc w4 ⟨#[]⟩ 0 (((w4.alloc (.cells #[.string ⟨#[]⟩] 9)).alloc (.cells #[.int .i64 0] 3)).alloc (.cells #[.string t] 9)) :=
    ⟨((Boxed.new w4 9 _).alloc _).alloc _, by have := (Boxed.new (w4.alloc (.cells #[.string ⟨#[]⟩] 9)) 3 (.int .i64 0)).alloc (.cells #[.string t] 9); rw [World.size_alloc] at this; exact this, (((Below.refl _ w4).alloc (Nat.le_refl _) _).alloc (by simp) _).alloc (by simp; omega) _⟩
  refine wpIn_rangeFunc_ownF rfl (by decide) (gf := 21) (lb := #[.pointer (some ⟨w4.heap.size + 1 + 1, 0, none⟩)]) rfl trivial (enters_of Try.func21 (by kernel_rfl) rfl)
    (all_in t (w4.heap.size + 1 + 1) 8 _ (by unfold maxLen; omega) c3) (fun _ _ => trivial) (fun _ _ _ _ _ _ _ _ => trivial) (Below.refl _ _) (fun _ => rfl)
    (fun pre W => pre <+: xs ∧ Cc w4 (joined pre) pre.length W)
    (fun c pre W => ¬ (pre <+: xs))
    (fun s A B row hs hg hr => ⟨hs.1, hs.2.turned hg hr (by simp; omega)⟩)
    (fun c s A B row hs hg hr => hs)
    ⟨List.nil_prefix, G0⟩
    ?a1 ?assign ?body ?done ?stop
  case assign =>
    intro l x W K hK
    gi_wp2
    exact hK
  case stop =>
    rintro D c pre W hD hpre h hK
    rw [hxs] at hpre
    exact (h hpre).elim
  case body =>
    rintro l pre x W ⟨hp, hC⟩ hlen
    rw [hxs] at hlen
    have HSW := hide (HS.out.under hC.below)
    have q1 := HSW.out.b1.cell
    have q2 := HSW.out.b2.cell
    have q3 := hC.b3.cell
    have q4 := hC.b4.cell
    have f3 := hC.b3.frozen
    have f4 := hC.b4.frozen
    have fr := HSW.out.r.frozen
    have qr := HSW.out.r.cell
    have hne : xs ≠ [] := fun e => by rw [e] at hlen; simp at hlen
    obtain ⟨bl, ol, cl, hfl, hcl, _⟩ := HSW.out.l.at hne
    obtain ⟨bw, ow, cw, hfw, hcw, _⟩ := HSW.out.wt.at hne
    simp only [Value.slice.injEq] at hfl hfw
    obtain ⟨rfl, -, rfl⟩ := hfl
    obtain ⟨rfl, -, rfl⟩ := hfw
    obtain ⟨y, hy⟩ : ∃ y, xs[pre.length]? = some y := ⟨_, List.getElem?_eq_getElem hlen⟩
    have q5 := HSW.out.l.cell hy
    have q6 := HSW.out.wt.cell hy
    have hlen' : (pre.length : Int) < xs.length := by omega
    have HC := hide hC
    have HP := hide hp
    clear hC hp
    by_cases hx : x = y
    · subst hx
      obtain ⟨f1, f2, f5⟩ := HAT.out x pre.length hy
      have HN : Hid (Cc w4 (joined pre ++ x) (pre.length + 1 : Int) ((W.setCell ⟨w4.heap.size, 0, none⟩ (.string (joined pre ++ x))).setCell ⟨w4.heap.size + 1, 0, none⟩ (.int .i64 (pre.length + 1 : Int)))) := HC.out.set _ _
      have HK : Hid (KeepsOthers W ((W.setCell ⟨w4.heap.size, 0, none⟩ (.string (joined pre ++ x))).setCell ⟨w4.heap.size + 1, 0, none⟩ (.int .i64 (pre.length + 1 : Int)))) := (KeepsOthers.setCell _ _ _).trans (KeepsOthers.setCell _ _ _)
      have q4' : (W.setCell ⟨w4.heap.size, 0, none⟩ (.string (joined pre ++ x))).cell? ⟨w4.heap.size + 1, 0, none⟩ = some (.int .i64 (pre.length : Int)) := (HC.out.b4.other (by omega) _).cell
      have f4' : (W.setCell ⟨w4.heap.size, 0, none⟩ (.string (joined pre ++ x))).frozen? ⟨w4.heap.size + 1, 0, none⟩ = false := (HC.out.b4.other (by omega) _).frozen
      have HPN := hide (prefix_next HP.out hy)
      have HJS := hide (joined_snoc pre x)
      have g1 : (x.size : Int) ≤ 512 := by omega
      have HL : Hid ((pre ++ [x]).length = pre.length + 1) := by show _ = _; simp
      have hJz : (joined pre).size ≤ 1623 := by have h1 := joined_size pre; have h2 := HTP.out pre HP.out; omega
      have hJz2 : ¬ (9223372036854775807 < (joined pre).size + x.size) := by omega
      have hlen2 : ¬ (xs.length ≤ pre.length) := by omega
      generalize joined pre = J at *
      by_cases hl1 : pre.length + 1 < xs.length
      · have g2 := (f5 hl1).1
        have g3 : (32 : Int) ≤ x.size := by omega
        have g4 : (pre.length : Int) + 1 < xs.length := by omega
        clear f5
        gi_wp2_with fail
        refine ⟨HK.out, trivial, HPN.out, ?_⟩
        rw [← HJS.out, HL.out]
        exact HN.out
      · have g4 : ¬ ((pre.length : Int) + 1 < xs.length) := by omega
        clear f5
        gi_wp2_with fail
        refine ⟨HK.out, trivial, HPN.out, ?_⟩
        rw [← HJS.out, HL.out]
        exact HN.out
    · have HX : Hid (¬ (pre ++ [x] <+: xs)) := fun h => hx (by have := prefix_last h; rw [hy] at this; cases this; rfl)
      have HK : Hid (KeepsOthers W (W.setCell ⟨w.heap.size, 0, none⟩ (.bool false))) := KeepsOthers.setCell _ _ _
      have hx2 : ¬ (x.toList = y.toList) := fun h => hx (toList_inj h)
      have hx3 : (x.toList == y.toList) = false := beq_eq_false_iff_ne.2 hx2
      have hlen2 : ¬ (xs.length ≤ pre.length) := by omega
      gi_wp2_with fail
      all_goals first | exact ⟨HK.out, HX.out⟩ | (rename_i h _; cases h)
  case done =>
    rintro D ys W hD hS ⟨hp, hC⟩ hK
    rw [hxs] at hS
    subst hS
    have HSW := hide (HS.out.under hC.below)
    have q1 := HSW.out.b1.cell
    have HC := hide hC
    have HK := hide hK
    have HJ := hide (join_any _ ys W HSW.out.l (by omega))
    rw [HJT.out.1, HJT.out.2] at HJ
    have hDw : w.heap.size ≤ D := by have h1 := HS.out.below.size; simp at hD; omega
    clear hC hK hp hD
    gi_wp2_with (first
      | (refine ⟨trivial, ?_⟩; gi_at_call 14; refine (callsIn_wide.2 HJ.out).mono ?_; rintro e w6 ⟨rfl, hb⟩; have HB6 := hide hb; have HS6 := hide (HSW.out.under hb); have s2 := HS6.out.b2.cell; have s3 := (Boxed.under HC.out.b3 hb).cell; have s4 := (Boxed.under HC.out.b4 hb).cell; have sr := HS6.out.r.cell; have srf := HS6.out.r.frozen; rw [HJJ.out] at s3; clear hb)
      | (refine ⟨trivial, ?_⟩; gi_at_call 15; refine (callsIn_wide.2 (cut_any t _ (by unfold maxLen; omega))).mono ?_; rintro e w7 ⟨rfl, hw⟩; subst hw)
      | (refine ⟨trivial, ?_⟩; gi_at_call 16; refine (callsIn_wide.2 (rcut_any t _ (by unfold maxLen; omega))).mono ?_; rintro e w8 ⟨rfl, hw⟩; subst hw))
    have HKD : Hid ((w8.setCell ⟨w.heap.size, 0, none⟩ (.bool true)).heap[D]? = some (.deferred (some []))) := (KeepsOthers.setCell _ _ _).same D _ ((keeps_others HB6.out).same D _ HK.out rfl) rfl
    refine ⟨by simp, .inl ⟨_, _, rfl, run_takeDeferred HKD.out, ?_⟩⟩
    have k1 := HS6.out.below.setCell (p := ⟨w.heap.size, 0, none⟩) (Nat.le_refl _) (.bool true)
    have k2 := k1.grown (grownBy_putObj' _ D (.deferred none)) k1.size (fun k e => by cases e; exact hDw)
    have k3 := ((HS6.out.r.set (.bool true)).kept (grownBy_putObj' _ D (.deferred none)) (boxed_row (HS6.out.r.set (.bool true)) (fun r e => by cases e; exact ⟨_, HKD.out, rfl⟩))).cell
    refine ⟨.bool true, ?_, rfl, k2⟩
    simp [results, Try.f3, go_sem, k3]
end Go.Proofs.Ytbmgapboajdcpaa
