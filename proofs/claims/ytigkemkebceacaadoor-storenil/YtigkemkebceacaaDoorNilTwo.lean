/- Several texts in one: StoreNilWalk. -/
import Derived.Test.YtigkemkebceacaaDoorStoreThree
import Derived.Test.YtigkemkebceacaaDoorNilOne
/- The walk of StoreNil. -/
namespace Go.Proofs.YtigkemkebceacaaDoor
open Go.RowKit Go.Shelf Go.Wire Go.Mk Go.Chunk Go.MapFun Go.St10
attribute [local go_sem] Oper.semAt_some
/-- Going over the elements of a nil slice: there are none. -/
theorem none_in (bx m : Nat) (w0 : World) (hbx : w0.cell? ⟨bx, 0, none⟩ = some (.slice none 0 0)) :
    SeqStopsK Fence.wide m Tryd.prog 63 #[.pointer (some ⟨bx, 0, none⟩)] (fun x : ByteArray => #[.string x]) (fun _ _ => True) (fun xs => xs = []) (fun _ => False) 0 w0 := by
  intro l J Jx W hW hJ hJx hY h0
  refine callsIn_of_wp Tryd.func63 rfl trivial ?_ rfl
  simp only [Tryd.ntmps63, List.size_toArray, List.length_cons, List.length_nil, Nat.reduceAdd, Nat.reduceSub, Array.replicate_succ, Array.replicate_zero, List.push_toArray, List.append_toArray, List.nil_append, List.cons_append]
  have hlt : bx < w0.heap.size := by
    rcases Nat.lt_or_ge bx w0.heap.size with h | h
    · exact h
    · simp [World.cell?, Array.getElem?_eq_none h] at hbx
  have hb1 : W.cell? ⟨bx, 0, none⟩ = some (.slice none 0 0) := (hW.cell (p := ⟨bx, 0, none⟩) hlt).trans hbx
  have H0 := hide h0
  clear hY h0 hbx
  gi_wp2_with fail
  gi_loopw [7] (fun vi wr => vi = .int .i64 0 ∧ Hid (J [] wr)) (fun _ _ => 0)
  case atStart => exact ⟨rfl, H0⟩
  case round =>
    obtain ⟨rfl, HP⟩ := hrel
    gi_wp2_with fail
    go_end0
    exact ⟨⟨_, rfl⟩, .inl ⟨[], rfl, HP.out⟩⟩
theorem values_nil (w : World) :
    Calls Tryd.prog 48 #[.slice none 0 0] w fun e w' => e = .returned (.func (.func 63) #[] #[.pointer (some ⟨w.heap.size, 0, none⟩)]) ∧ w' = w.alloc (.cells #[.slice none 0 0] 22) := by
  go_enter Tryd.func48, Tryd.ntmps48
  go_wp2_with fail
  go_ret
  exact ⟨rfl, rfl⟩
/-- A range over an iterator that gives nothing. -/
theorem range_none {g : Operand} {ps : Array Tmp} {body : Code} {Q : Exit → Act → World → Prop} {a : Act} {w : World} (bx : Nat) (hg : a.eval g = .func (.func 63) #[] #[.pointer (some ⟨bx, 0, none⟩)])
    (hbx : w.cell? ⟨bx, 0, none⟩ = some (.slice none 0 0)) (hps : ps.size = 1) (I : World → Prop) (hI : OwnFrom w.heap.size (fun (_ : List ByteArray) W => I W)) (h0 : I w)
    (hdone : ∀ (D : Nat) (W : World), w.heap.size ≤ D → I W → W.heap[D]? = some (.deferred (some [])) → Q .normal { a with defers := { target := .collected D, args := #[] } :: a.defers } W) :
    (Code.rangeFunc g ps .skip body).wpIn Fence.wide 9 Tryd.prog Q a w := by
  refine wpIn_rangeFunc_ownF rfl (by decide) hg trivial (enters_of Tryd.func63 (by kernel_rfl) rfl) (none_in bx 8 w hbx) (fun _ _ => trivial) (fun _ _ _ _ _ _ _ _ => trivial) (Below.refl _ _) (fun _ => hps.symm)
    (fun _ W => I W) (fun _ _ _ => False) hI (fun _ _ _ _ _ h _ _ => h) h0
    (fun x => { tmps := (ps.zip #[Value.string x]).foldl (fun t (p, v) => t.setIfInBounds p v) a.tmps, defers := [] }) ?_ (fun _ _ _ _ _ h => absurd h (Nat.not_lt_zero _)) (fun D xs W hD _ hW hK => hdone D W hD hW hK) (fun _ _ _ _ _ h => h.elim)
  intro l x W K hK
  gi_wp2
  simpa [hps] using hK
set_option maxRecDepth 100000 in
theorem rising_nil (w : World) :
    Calls Tryd.prog 34 #[.map none] w fun e w' => ∃ X, e = .returned (.func (.func 63) #[] #[.pointer (some ⟨X, 0, none⟩)]) ∧ w'.cell? ⟨X, 0, none⟩ = some (.slice none 0 0) ∧ Below w.heap.size w w' := by
  have HK := hide (callsIn_wide.1 (keys_in none w))
  have HS := hide (callsIn_wide.1 (sorted_none w))
  go_enter Tryd.func34, Tryd.ntmps34
  go_wp2_with (first
    | (go_at_call 50; refine HK.out.mono ?_; rintro e w1 ⟨rfl, rfl⟩)
    | (go_at_call 49; refine HS.out.mono ?_; rintro e w2 ⟨v, ss, rfl, hss, -, hv, hb2⟩; obtain rfl := hv.2 hss; have H2 := hide hb2; clear hb2 hv)
    | (go_at_call 48; refine (values_nil _).mono ?_; rintro e w3 ⟨rfl, hw3⟩; subst hw3))
  go_ret
  have hb := (Below.refl _ w).alloc (Nat.le_refl _) (.cells #[.map none] 53)
  have hb3 := hb.trans (H2.out.mono (by simp))
  exact ⟨_, rfl, cell_one_new _ _ _ 0 _ rfl, hb3.alloc hb3.size _⟩
set_option maxRecDepth 100000 in
theorem filesSt_nil (w : World) :
    Calls Tryd.prog 15 #[.pointer none] w fun e w' => ∃ X, e = .returned (.func (.func 63) #[] #[.pointer (some ⟨X, 0, none⟩)]) ∧ w'.cell? ⟨X, 0, none⟩ = some (.slice none 0 0) ∧ Below w.heap.size w w' := by
  have HR := hide (rising_nil w)
  go_enter Tryd.func15, Tryd.ntmps15
  go_wp2_with (go_at_call 34; refine HR.out.mono ?_; rintro e w1 ⟨X, rfl, hc, hb⟩; have H1 := hide (And.intro hc hb); clear hc hb)
  go_ret
  exact ⟨_, rfl, H1.out⟩
/-- What the walk keeps: its start, and that nothing was counted. -/
def Cnt (w : World) (B : Nat) (W : World) : Prop := Below w.heap.size w W ∧ W.heap[B]? = some (.cells #[.int .i64 0] 3 (0, 0))
theorem Cnt.turned {w : World} {B b : Nat} {W W' : World} {row : Option Nat} (h : Cnt w B W) (hg : W.grownBy W' row) (hr : ∀ r, row = some r → b ≤ r ∧ ∃ o : Obj, W.heap[r]? = some o ∧ o.isCells = false) (hb : w.heap.size ≤ b) : Cnt w B W' := by
  refine ⟨h.1.grown hg h.1.size fun k e => Nat.le_trans hb (hr k e).1, (hg.block B (Array.getElem?_eq_some_iff.1 h.2).1 fun e => ?_).trans h.2⟩
  obtain ⟨_, o, ho, hc⟩ := hr B e.symm
  rw [h.2] at ho
  cases ho
  cases hc
set_option maxRecDepth 100000 in
set_option maxHeartbeats 2000000 in
theorem storeNil_any (t : ByteArray) (w : World) (hst : Steps w) :
    Calls Tryd.prog 4 #[.string t] w fun e w' => e = .returned (.bool true) ∧ Below w.heap.size w w' := by
  refine (callsIn_wide (n := 9)).1 ?_
  refine callsIn_of_wp_marks Tryd.func4 rfl trivial ?_ rfl
  simp only [Tryd.ntmps4, List.size_toArray, List.length_cons, List.length_nil, Nat.reduceAdd, Nat.reduceSub, Array.replicate_succ, Array.replicate_zero, List.push_toArray, List.append_toArray, List.nil_append, List.cons_append]
  have HA := hide (awake10_any w hst)
  clear hst
  gi_wp2_with (first
    | (refine ⟨trivial, ?_⟩; gi_at_call 9; refine (callsIn_wide.2 HA.out).mono ?_; rintro e w1 ⟨rfl, hb⟩; have H1 := hide hb; clear hb)
    | (refine ⟨trivial, ?_⟩; gi_at_call 11; refine (callsIn_wide.2 (putSt_nil t _)).mono ?_; rintro e w2 ⟨rfl, hb⟩; have H2 := hide hb; clear hb)
    | (refine ⟨trivial, ?_⟩; gi_at_call 12; refine (callsIn_wide.2 (getSt_nil t _)).mono ?_; rintro e w3 ⟨rfl, hb⟩; have H3 := hide hb; clear hb)
    | (refine ⟨trivial, ?_⟩; gi_at_call 6; refine (callsIn_wide.2 (knowSt_nil 0 (.slice none 0 0) ⟨_, _, _, rfl⟩ _)).mono ?_; rintro e w4 ⟨rfl, hb⟩; have H4 := hide hb; clear hb)
    | (refine ⟨trivial, ?_⟩; gi_at_call 13; refine (callsIn_wide.2 (manifestSt_nil t _)).mono ?_; rintro e w5 ⟨rfl, hb⟩; have H5 := hide hb; clear hb)
    | (refine ⟨trivial, ?_⟩; gi_at_call 14; refine (callsIn_wide.2 (fileSt_nil t _)).mono ?_; rintro e w6 ⟨rfl, hb⟩; have H6 := hide hb; clear hb)
    | (refine ⟨trivial, ?_⟩; gi_at_call 7; refine (callsIn_wide.2 (addSt_nil _ _)).mono ?_; rintro e w7 ⟨rfl, hb⟩; have H7 := hide hb; clear hb)
    | (refine ⟨trivial, ?_⟩; gi_at_call 15; refine (callsIn_wide.2 (filesSt_nil _)).mono ?_; rintro e w8 ⟨X, rfl, hc, hb⟩; have H8 := hide (And.intro hc hb); clear hc hb))
  have B7 : Below w.heap.size w w7 := by
    have z1 := H1.out.size
    have z2 := H2.out.size
    have z3 := H3.out.size
    have z4 := H4.out.size
    have z5 := H5.out.size
    have k5 := (Below.refl _ w5).alloc (Nat.le_refl _) (.cells #[.int .i64 0, .slice none 0 0] 24)
    have z6 := k5.size
    have z7 := H6.out.size
    exact ((((((H1.out.trans (H2.out.mono (by omega))).trans (H3.out.mono (by omega))).trans (H4.out.mono (by omega))).trans (H5.out.mono (by omega))).trans (k5.mono (by omega))).trans (H6.out.mono (by omega))).trans (H7.out.mono (by omega))
  have HC : Hid (Cnt w w7.heap.size w8) := by
    have k8 := B7.alloc B7.size (.cells #[.int .i64 0] 3)
    exact ⟨k8.trans (H8.out.2.mono k8.size), (H8.out.2.block w7.heap.size (by simp)).trans (heap_alloc_new _ _)⟩
  have HX := hide H8.out.1
  have HZ := hide HC.out.1.size
  clear H1 H2 H3 H4 H5 H6 H7 H8 B7 HA
  refine range_none X rfl HX.out rfl (Cnt w w7.heap.size) (fun _ _ _ _ h hg hr => h.turned hg hr HC.out.1.size) HC.out ?_
  intro D W hD hW hK
  have q0 : W.cell? ⟨w7.heap.size, 0, none⟩ = some (.int .i64 0) := by rw [cell_of_row _ _ _ _ _ _ hW.2]; rfl
  have HW := hide (And.intro hW hK)
  clear hW hK HC HX
  dsimp only
  gi_wp2_with (first
    | (refine ⟨trivial, ?_⟩; gi_at_call 16; refine (callsIn_wide.2 (forgetSt_nil t _)).mono ?_; rintro e v1 ⟨rfl, hb⟩; have G1 := hide hb; clear hb)
    | (refine ⟨trivial, ?_⟩; gi_at_call 17; refine (callsIn_wide.2 (collectSt_nil _)).mono ?_; rintro e v2 ⟨rfl, hb⟩; have G2 := hide hb; clear hb)
    | (refine ⟨trivial, ?_⟩; gi_at_call 18; refine (callsIn_wide.2 (lacksSt_nil t _)).mono ?_; rintro e v3 ⟨rfl, hb⟩; have G3 := hide hb; clear hb)
    | (refine ⟨trivial, ?_⟩; gi_at_call 19; refine (callsIn_wide.2 (usedSt_nil _)).mono ?_; rintro e v4 ⟨rfl, hb⟩; have G4 := hide hb; clear hb)
    | (refine ⟨trivial, ?_⟩; gi_at_call 20; refine (callsIn_wide.2 (usesSt_nil t _)).mono ?_; rintro e v5 ⟨rfl, hb⟩; have G5 := hide hb; clear hb)
    | (refine ⟨trivial, ?_⟩; gi_at_call 21; refine (callsIn_wide.2 (chunksSt_nil _)).mono ?_; rintro e v6 ⟨rfl, hb⟩; have G6 := hide hb; clear hb))
  have B6 : Below W.heap.size W v6 := by
    have z1 := G1.out.size
    have z2 := G2.out.size
    have z3 := G3.out.size
    have z4 := G4.out.size
    have z5 := G5.out.size
    exact ((((G1.out.trans (G2.out.mono (by omega))).trans (G3.out.mono (by omega))).trans (G4.out.mono (by omega))).trans (G5.out.mono (by omega))).trans (G6.out.mono (by omega))
  have hK6 : v6.heap[D]? = some (.deferred (some [])) := (B6.block D (Array.getElem?_eq_some_iff.1 HW.out.2).1).trans HW.out.2
  refine ⟨by simp, .inl ⟨_, _, rfl, run_takeDeferred hK6, ?_⟩⟩
  have C6 : Cnt w w7.heap.size v6 := ⟨HW.out.1.1.trans (B6.mono HW.out.1.1.size), (B6.block _ (Array.getElem?_eq_some_iff.1 HW.out.1.2).1).trans HW.out.1.2⟩
  have C7 := C6.turned (b := w8.heap.size) (grownBy_putObj' _ D (.deferred none)) (fun r e => by cases e; exact ⟨hD, _, hK6, rfl⟩) HZ.out
  refine ⟨.bool true, ?_, rfl, C7.1⟩
  simp [results, Tryd.f4, go_sem]
end Go.Proofs.YtigkemkebceacaaDoor
