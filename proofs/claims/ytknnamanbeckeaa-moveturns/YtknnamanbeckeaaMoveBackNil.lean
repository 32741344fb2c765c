/- Contract: all from a place on is taken back: of a tree without operations. -/
import Derived.Test.YtknnamanbeckeaaMoveBackMem
namespace Go.Proofs.Ytknnamanbeckeaa
open Go.RowKit Go.Opn Go.Stamp Go.MapInt Go.Mov Go.Shelf
attribute [local go_sem] Oper.semAt_some
set_option maxHeartbeats 4000000 in
set_option maxRecDepth 100000 in
theorem takeBack_nil {base b : Nat} {mb : Option Nat} {u : Int} (w : World) (h : TreeAt Try.prog 30 66 75 base ⟨b, mb, .slice none 0 0⟩ [] u w) (hb : base ≤ w.heap.size) :
    Calls Try.prog 26 #[.pointer (some ⟨b, 0, none⟩), .int .i64 0] w fun r w' =>
      ∃ v', r = .returned v' ∧ TreeAt Try.prog 30 66 75 base ⟨b, mb, .slice none 0 0⟩ [] u w' ∧ w'.ownsRow w.heap.size 75 17 v' 0 [] ∧ Tn ⟨b, mb, .slice none 0 0⟩ w w' := by
  refine (callsIn_wide (n := 9)).1 ?_
  refine callsIn_of_wp_marks Try.func26 rfl trivial ?_ rfl
  simp only [Try.ntmps26, List.size_toArray, List.length_cons, List.length_nil, Nat.reduceAdd, Nat.reduceSub, Array.replicate_succ, Array.replicate_zero, List.push_toArray, List.append_toArray, List.nil_append, List.cons_append]
  have HT := hide h
  have kA := ((Below.refl _ w).alloc (Nat.le_refl _) (.cells #[.pointer (some ⟨b, 0, none⟩)] 23))
  have I0 := hide (HT.out.g.below kA)
  have KA := hide kA
  have c1 := I0.out.c1
  dsimp only at c1
  have HC := hide (fun v => cloneSp_any (.slice none 0 0) [] v (.inl ⟨rfl, rfl⟩) (Nat.zero_le _))
  simp only [List.length_nil, List.flatMap_nil] at HC
  clear h kA
  gi_wp2_with (refine ⟨trivial, ?_⟩; gi_at_call 41; refine (callsIn_wide.2 (HC.out _)).mono ?_; rintro e w1 ⟨vc, rfl, hown, kC⟩; have I1 := hide (I0.out.below kC); have HO := hide hown; have KC := hide kC; obtain ⟨va, vcc, rfl⟩ := own_form HO.out; clear hown kC)
  have b1 := I1.out.c1
  have f1 := I1.out.fz 1
  dsimp only at b1 f1
  have t1 : w1.cell? ⟨w.heap.size, 0, none⟩ = some (.pointer (some ⟨b, 0, none⟩)) := (KC.out.cell (p := ⟨w.heap.size, 0, none⟩) (by simp)).trans ((cell_of_row _ _ _ _ _ _ (heap_alloc_new w _)).trans rfl)
  gi_region
  have hsz1 : w.heap.size + 1 ≤ w1.heap.size := by have := KC.out.size; simpa using this
  have hFlt : b < w.heap.size := HT.out.g.lt _ (.inl rfl)
  have I2 : Hid (TreeG Try.prog 30 66 75 base ⟨b, mb, .slice none 0 0⟩ (ths [] []) (sps [] []) u (w1.setCell ⟨b, 1, none⟩ (.slice none 0 0)).drew) := by
    refine TreeG.below ?_ ((Below.refl _ _).drew)
    exact I1.out.setLog (by decide) ⟨rfl, rfl, rfl, Nat.le_refl _, fun _ _ _ => rfl⟩ (v' := .slice none 0 0) (ss' := sps [] []) (World.ownsRow_nil _ _ _ _) (fun x hx => by cases hx) (by omega)
  have HO3 : Hid ((w1.setCell ⟨b, 1, none⟩ (.slice none 0 0)).drew.ownsRow (w.heap.size + 1) 75 17 (.slice va 0 vcc) 0 []) := by
    have h1 := HO.out
    simp only [World.size_alloc] at h1
    refine own_kept h1 fun x hx => ?_
    have := (h1.lt x hx).1
    exact heap_setCell_other _ _ _ _ (by show x ≠ b; omega)
  have TN3 : Hid (Tn ⟨b, mb, .slice none 0 0⟩ w (w1.setCell ⟨b, 1, none⟩ (.slice none 0 0)).drew) := by
    have k1 : Below w.heap.size w w1 := KA.out.trans (KC.out.mono (by simp))
    exact ((Tn.of_below k1).trans (Tn.of_set w1 _ (.inl rfl)) (Ft.to_refl _ _)).trans (Tn.of_below ((Below.refl _ _).drew)) (Ft.to_refl _ _)
  have SZ3 : Hid (w.heap.size + 1 ≤ (w1.setCell ⟨b, 1, none⟩ (.slice none 0 0)).drew.heap.size) := by show _ ≤ _; simpa using hsz1
  generalize (w1.setCell ⟨b, 1, none⟩ (.slice none 0 0)).drew = w3 at I2 HO3 TN3 SZ3 ⊢
  clear I1 HO KC b1 f1 t1 hsz1
  gi_wp2_with (refine ⟨trivial, ?_⟩; gi_at_call 42; refine (callsIn_wide.2 (backward_any _ _ _ _)).mono ?_; rintro e w4 ⟨rfl, rfl⟩)
  obtain ⟨gc, hgc, hgl⟩ : ∃ gc, (∀ x, va = some x → x.block = gc) ∧ gc < w3.heap.size + 1 := by
    cases va with
    | none => exact ⟨w3.heap.size, (fun x h => by cases h), by omega⟩
    | some x => exact ⟨x.block, (fun y h => by cases h; rfl), by have := (HO3.out.lt x.block rfl).2; omega⟩
  have hst3 : StepsAt (w3.alloc (.cells #[.slice va 0 vcc] 64)) (.slice va ([] : List Sp).length vcc) [] := (StepsAt.of_own (ss := []) HO3.out).below ((Below.refl _ w3).alloc (Nat.le_refl _) _)
  have hbx3 : (w3.alloc (.cells #[.slice va 0 vcc] 64)).cell? ⟨w3.heap.size, 0, none⟩ = some (.slice va ([] : List Sp).length vcc) := (cell_of_row _ _ _ _ _ _ (heap_alloc_new w3 _)).trans rfl
  refine wpIn_rangeFunc_ownH rfl (by decide) (gf := 54) (lb := #[.pointer (some ⟨w3.heap.size, 0, none⟩)]) rfl trivial (enters_of Try.func54 (by kernel_rfl) rfl)
    (back_of (fun _ => False) [] (fun _ h => by cases h) w3.heap.size gc 8 _ hbx3 hgc hst3 (Nat.zero_le _)) (fun h k => KpB_t _ _ h k) (KpB_b _ _ _ (by simp) (by simpa using hgl)) (Below.refl _ _) (fun _ => rfl)
    (fun _ W => Below (w3.heap.size + 1) (w3.alloc (.cells #[.slice va 0 vcc] 64)) W)
    (fun c pre W => False)
    ?hI (fun c s A B row hs hg hr => hs) ?h0
    (fun x a' W => False) ?hAx ?assign ?body ?done ?stop
  case hI =>
    intro ss' A B row hs hg hr
    exact hs.grown hg (by simpa using hs.size) (fun j e => by have := (hr j e).1; simpa using this)
  case h0 => exact Below.refl _ _
  case hAx => rintro x a' _ A B row h; exact h.elim
  case assign => rintro lq pre ⟨⟨k, s⟩, hbk⟩; exact hbk.elim
  case body => rintro lq pre ⟨⟨k, s⟩, hbk⟩; exact hbk.elim
  case done =>
    rintro D xs W hD hxs hI hK
    have HI := hide hI
    have hD2 : w3.heap.size + 1 ≤ D := by simpa using hD
    clear hxs hI hD
    gi_wp2
    refine ⟨by simp, .inl ⟨_, _, rfl, run_takeDeferred hK, ?_⟩⟩
    have hkp : ∀ q, q < w3.heap.size → (W.putObj D (.deferred none)).heap[q]? = w3.heap[q]? := fun q hq => (putObj_other (by omega)).trans ((HI.out.block q (by omega)).trans (heap_alloc_old _ _ hq))
    refine ⟨.slice va 0 vcc, ?_, _, rfl, TreeG.at ?_ (fun e he => by cases he) List.Pairwise.nil, ?_, ?_⟩
    · simp [results, Try.f26, go_sem]
    · exact I2.out.kept fun x hx => hkp x (I2.out.lt x hx)
    · exact own_low (own_kept HO3.out fun x hx => hkp x (HO3.out.lt x hx).2) (by omega)
    · have t0 := TN3.out
      have hg := grownBy_putObj' W D (.deferred none)
      have h3 := HI.out
      exact ⟨hg.os.trans (h3.os.trans t0.os), hg.tape.trans (h3.tape.trans t0.tape), hg.output.trans (h3.output.trans t0.output), Nat.le_trans t0.size (Nat.le_trans (by have := h3.size; simp at this; omega) hg.size), fun q hq hq2 => (hkp q (by have := SZ3.out; omega)).trans (t0.block q hq hq2)⟩
  case stop => rintro D c pre W hD hpre h hK; exact h.elim
end Go.Proofs.Ytknnamanbeckeaa
