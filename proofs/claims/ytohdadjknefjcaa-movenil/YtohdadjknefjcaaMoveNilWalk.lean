/- The walk: a nil tree answers as the document says. -/
import Derived.Test.YtohdadjknefjcaaMoveAwake
import Derived.Test.YtohdadjknefjcaaMoveVals
import Derived.Test.YtohdadjknefjcaaMoveOpen
namespace Go.Proofs.Ytohdadjknefjcaa
open Go.RowKit Go.Opn Go.Stamp Go.MapInt Go.Mov Go.Shelf Go.Rws
attribute [local go_sem] Oper.semAt_some
theorem infoLe2 : (Try.prog.info? 42).map (·.size) = some 10 := by kernel_rfl
theorem allTree_nil (w : World) : Calls Try.prog 22 #[.pointer none] w fun e w' => e = .returned (.func (.func 58) #[] #[.pointer (some ⟨w.heap.size, 0, none⟩)]) ∧ w' = w.alloc (.cells #[.slice none 0 0] 56) := by
  go_enter Try.func22, Try.ntmps22
  go_wp2_with (go_at_call 40; refine (values_any _ _ _ _).mono ?_; rintro e w1 ⟨rfl, rfl⟩)
  go_ret
  exact ⟨rfl, rfl⟩
set_option maxHeartbeats 4000000 in
set_option maxRecDepth 100000 in
theorem moveNil_any (a : Le) (k : Int) (w : World) (_ : a.Fits) (_ : 0 ≤ k ∧ k ≤ 18446744073709551615) : Calls Try.prog 6 #[a.v, .int .u64 k] w fun r w' => r = .returned (.bool true) ∧ Below w.heap.size w w' := by
  refine (callsIn_wide (n := 9)).1 ?_
  have HE := hide (fun v => entry_any a v)
  have HAd := hide (fun v => addTree_nil a.en v)
  obtain ⟨⟨kd, ⟨tc, tk⟩, th, pa, nm, dr, dg, sz⟩, eh⟩ := a
  simp only [Le.v, Le.en, En.v] at HE HAd ⊢
  refine callsIn_of_wp_marks Try.func6 rfl trivial ?_ rfl
  simp only [Try.ntmps6, List.size_toArray, List.length_cons, List.length_nil, Nat.reduceAdd, Nat.reduceSub, Array.replicate_succ, Array.replicate_zero, List.push_toArray, List.append_toArray, List.nil_append, List.cons_append]
  have k0 : Hid (Below w.heap.size w (w.alloc (.cells #[.int .i64 kd, .int .u64 tc, .int .i64 tk, .int .u64 th, .int .u64 pa, .string nm, .bool dr, .string dg, .int .i64 sz, .int .u8 (eh.toNat : Nat)] 42))) := (Below.refl _ w).alloc (Nat.le_refl _) _
  have hz0 := heap_alloc_new w (.cells #[.int .i64 kd, .int .u64 tc, .int .i64 tk, .int .u64 th, .int .u64 pa, .string nm, .bool dr, .string dg, .int .i64 sz, .int .u8 (eh.toNat : Nat)] 42 (0, 0))
  have HZ0 := hide hz0
  clear hz0
  gi_wp2_with (first
    | (refine ⟨trivial, ?_⟩; gi_at_call 10; refine (callsIn_wide.2 (awake13_any _)).mono ?_; rintro e w1 ⟨rfl, hb⟩; have H1 := hide hb; clear hb)
    | (refine ⟨trivial, ?_⟩; gi_at_call 25; refine (callsIn_wide.2 (getTree_nil k _)).mono ?_; rintro e w2 ⟨rfl, hb⟩; unfold Th.v Th.zero; have H2 := hide hb; clear hb)
    | (refine ⟨trivial, ?_⟩; gi_at_call 22; refine (callsIn_wide.2 (allTree_nil _)).mono ?_; rintro e w3 ⟨rfl, rfl⟩))
  have kA : Below (w.heap.size + 1) (w.alloc (.cells #[.int .i64 kd, .int .u64 tc, .int .i64 tk, .int .u64 th, .int .u64 pa, .string nm, .bool dr, .string dg, .int .i64 sz, .int .u8 (eh.toNat : Nat)] 42)) ((w2.alloc (.cells #[.int .u64 0, .int .u64 0, .string ⟨#[]⟩, .bool false, .string ⟨#[]⟩, .int .i64 0] 61)).alloc (.cells #[.int .i64 0] 3)) := by
    have h1 : Below (w.heap.size + 1) (w.alloc (.cells #[.int .i64 kd, .int .u64 tc, .int .i64 tk, .int .u64 th, .int .u64 pa, .string nm, .bool dr, .string dg, .int .i64 sz, .int .u8 (eh.toNat : Nat)] 42)) w1 := by have := H1.out; simpa using this
    have z1 : w.heap.size + 1 ≤ w1.heap.size := by have := h1.size; simpa using this
    have z2 := H2.out.size
    have h2 := h1.trans (H2.out.mono z1)
    exact (h2.alloc (by omega) _).alloc (by simp; omega) _
  have hn3 : ((w2.alloc (.cells #[.int .u64 0, .int .u64 0, .string ⟨#[]⟩, .bool false, .string ⟨#[]⟩, .int .i64 0] 61)).alloc (.cells #[.int .i64 0] 3)).heap[w2.heap.size + 1]? = some (.cells #[.int .i64 0] 3 (0, 0)) := new_at (by simp) _
  have hl3 : w2.heap.size + 1 < ((w2.alloc (.cells #[.int .u64 0, .int .u64 0, .string ⟨#[]⟩, .bool false, .string ⟨#[]⟩, .int .i64 0] 61)).alloc (.cells #[.int .i64 0] 3)).heap.size := by simp
  have he3 : ((w2.alloc (.cells #[.int .u64 0, .int .u64 0, .string ⟨#[]⟩, .bool false, .string ⟨#[]⟩, .int .i64 0] 61)).alloc (.cells #[.int .i64 0] 3)).heap[w.heap.size]? = some (.cells #[.int .i64 kd, .int .u64 tc, .int .i64 tk, .int .u64 th, .int .u64 pa, .string nm, .bool dr, .string dg, .int .i64 sz, .int .u8 (eh.toNat : Nat)] 42 (0, 0)) := (kA.block _ (by omega)).trans HZ0.out
  have KW : Hid (Below w.heap.size w ((w2.alloc (.cells #[.int .u64 0, .int .u64 0, .string ⟨#[]⟩, .bool false, .string ⟨#[]⟩, .int .i64 0] 61)).alloc (.cells #[.int .i64 0] 3))) := k0.out.trans (kA.mono (by omega))
  have hsz3 : ((w2.alloc (.cells #[.int .u64 0, .int .u64 0, .string ⟨#[]⟩, .bool false, .string ⟨#[]⟩, .int .i64 0] 61)).alloc (.cells #[.int .i64 0] 3)).heap.size = w2.heap.size + 1 + 1 := by simp
  rw [← hsz3]
  generalize hg3 : w2.heap.size + 1 = gn at *
  generalize (w2.alloc (.cells #[.int .u64 0, .int .u64 0, .string ⟨#[]⟩, .bool false, .string ⟨#[]⟩, .int .i64 0] 61)).alloc (.cells #[.int .i64 0] 3) = w3 at *
  have HN3 := hide (And.intro hn3 (And.intro he3 hl3))
  clear kA hn3 he3 hsz3 hl3 H1 H2 k0 HZ0 hg3
  refine wpIn_rangeFunc_ownH rfl (by decide) (gf := 58) (lb := #[.pointer (some ⟨w3.heap.size, 0, none⟩)]) rfl trivial (enters_of Try.func58 (by kernel_rfl) rfl)
    (vals_of (a := none) (c := 0) (fun _ => False) [] (fun _ h => by cases h) w3.heap.size w3.heap.size 8 (w3.alloc (.cells #[.slice none 0 0] 56)) ((cell_of_row _ _ _ _ _ _ (heap_alloc_new w3 _)).trans rfl) (fun x h => by cases h) (.inl ⟨⟨none, 0, rfl⟩, rfl⟩) (Nat.zero_le _)) (fun h k => ⟨Nat.le_trans h.1 k.1, k.2.1.trans h.2.1, k.2.2.trans h.2.2⟩) ?hKb (Below.refl _ _) (fun _ => rfl)
    (fun _ W => Below (w3.heap.size + 1) (w3.alloc (.cells #[.slice none 0 0] 56)) W)
    (fun c pre W => False)
    ?hI (fun c s A B row hs hg hr => hs) ?h0
    (fun x a' W => False) ?hAx ?assign ?body ?done ?stop
  case hKb =>
    intro W l o o' hl _ _ _
    have hg := grownBy_putObj' W l o'
    have hl2 : w3.heap.size + 1 ≤ l := by simpa using hl
    have hn : (W.putObj l o').heap[w3.heap.size]? = W.heap[w3.heap.size]? := by
      unfold World.putObj
      have : l ≠ w3.heap.size := by omega
      simp [this]
    exact ⟨hg.size, hn, hn⟩
  case hI =>
    intro ss' A B row hs hg hr
    exact hs.grown hg (by simpa using hs.size) (fun j e => by have := (hr j e).1; simpa using this)
  case h0 => exact Below.refl _ _
  case hAx => rintro x a' _ A B row h; exact h.elim
  case assign => rintro lq pre ⟨x, hbk⟩; exact hbk.elim
  case body => rintro lq pre ⟨x, hbk⟩; exact hbk.elim
  case stop => rintro D c pre W hD hpre h hK; exact h.elim
  case done =>
    rintro D xs W hD hxs hI hK
    have hD2 : w3.heap.size + 1 ≤ D := by simpa using hD
    have hgn : W.heap[gn]? = some (.cells #[.int .i64 0] 3 (0, 0)) := (hI.block _ (by have := HN3.out.2.2; omega)).trans ((heap_alloc_old _ _ HN3.out.2.2).trans HN3.out.1)
    have hwl : w.heap.size < w3.heap.size := (Array.getElem?_eq_some_iff.1 HN3.out.2.1).1
    have hge : W.heap[w.heap.size]? = some (.cells #[.int .i64 kd, .int .u64 tc, .int .i64 tk, .int .u64 th, .int .u64 pa, .string nm, .bool dr, .string dg, .int .i64 sz, .int .u8 (eh.toNat : Nat)] 42 (0, 0)) := (hI.block _ (by omega)).trans ((heap_alloc_old _ _ hwl).trans HN3.out.2.1)
    have KWW : Hid (Below w.heap.size w W) := (KW.out.alloc KW.out.size _).trans (hI.mono (by omega))
    have HK := hide (And.intro hK hD2)
    have q0 : W.cell? ⟨gn, 0, none⟩ = some (.int .i64 0) := (cell_of_row _ _ _ _ _ _ hgn).trans rfl
    have c0 : W.cell? ⟨w.heap.size, 0, none⟩ = some (.int .i64 kd) := (cell_of_row _ _ _ _ _ _ hge).trans rfl
    have c1 : W.cell? ⟨w.heap.size, 1, none⟩ = some (.int .u64 tc) := (cell_of_row _ _ _ _ _ _ hge).trans rfl
    have c2 : W.cell? ⟨w.heap.size, 2, none⟩ = some (.int .i64 tk) := (cell_of_row _ _ _ _ _ _ hge).trans rfl
    have c3 : W.cell? ⟨w.heap.size, 3, none⟩ = some (.int .u64 th) := (cell_of_row _ _ _ _ _ _ hge).trans rfl
    have c4 : W.cell? ⟨w.heap.size, 4, none⟩ = some (.int .u64 pa) := (cell_of_row _ _ _ _ _ _ hge).trans rfl
    have c5 : W.cell? ⟨w.heap.size, 5, none⟩ = some (.string nm) := (cell_of_row _ _ _ _ _ _ hge).trans rfl
    have c6 : W.cell? ⟨w.heap.size, 6, none⟩ = some (.bool dr) := (cell_of_row _ _ _ _ _ _ hge).trans rfl
    have c7 : W.cell? ⟨w.heap.size, 7, none⟩ = some (.string dg) := (cell_of_row _ _ _ _ _ _ hge).trans rfl
    have c8 : W.cell? ⟨w.heap.size, 8, none⟩ = some (.int .i64 sz) := (cell_of_row _ _ _ _ _ _ hge).trans rfl
    have c9 : W.cell? ⟨w.heap.size, 9, none⟩ = some (.int .u8 (eh.toNat : Nat)) := (cell_of_row _ _ _ _ _ _ hge).trans rfl
    have hw3 : w.heap.size ≤ w3.heap.size := by omega
    clear hxs hI hD hK hgn hge hD2 hwl KW HN3
    dsimp only
    gi_wp2_with (first
      | (refine ⟨trivial, ?_⟩; gi_at_call 15; refine (callsIn_wide.2 (HE.out _)).mono ?_; rintro e v1 ⟨rfl, hb⟩; have G1 := hide hb; clear hb HE)
      | (refine ⟨trivial, ?_⟩; gi_at_call 14; refine (callsIn_wide.2 (HAd.out _)).mono ?_; rintro e v2 ⟨rfl, hb⟩; have G2 := hide hb; clear hb HAd)
      | (refine ⟨trivial, ?_⟩; gi_at_call 26; refine (callsIn_wide.2 (kids_nil k _)).mono ?_; rintro e v3 ⟨rfl, rfl⟩)
      | (refine ⟨trivial, ?_⟩; gi_at_call 27; refine (callsIn_wide.2 (below_nil k k _)).mono ?_; rintro e v4 ⟨rfl, hb⟩; have G4 := hide hb; clear hb)
      | (refine ⟨trivial, ?_⟩; gi_at_call 19; refine (callsIn_wide.2 (logTree_nil _)).mono ?_; rintro e v5 ⟨rfl, rfl⟩)
      | (refine ⟨trivial, ?_⟩; gi_at_call 16; refine (callsIn_wide.2 (lenTree_nil _)).mono ?_; rintro e v6 ⟨rfl, rfl⟩)
      | (refine ⟨trivial, ?_⟩; gi_at_call 28; refine (callsIn_wide.2 (undone_nil _)).mono ?_; rintro e v7 ⟨rfl, rfl⟩)
      | (refine ⟨trivial, ?_⟩; gi_at_call 29; refine (callsIn_wide.2 (deep_nil k _)).mono ?_; rintro e v8 ⟨rfl, hb⟩; have G8 := hide hb; clear hb))
    have B8 : Below W.heap.size W v8 := by
      have z1 := G1.out.size
      have z2 := G2.out.size
      have z4 := G4.out.size
      exact ((G1.out.trans (G2.out.mono (by omega))).trans (G4.out.mono (by omega))).trans (G8.out.mono (by omega))
    have hK8 : v8.heap[D]? = some (.deferred (some [])) := (B8.block D (Array.getElem?_eq_some_iff.1 HK.out.1).1).trans HK.out.1
    refine ⟨by simp, .inl ⟨_, _, rfl, run_takeDeferred hK8, ?_⟩⟩
    have hD3 : w.heap.size ≤ D := Nat.le_trans hw3 (Nat.le_of_succ_le HK.out.2)
    have C8 : Below w.heap.size w v8 := KWW.out.trans (B8.mono KWW.out.size)
    refine ⟨.bool true, ?_, rfl, C8.grown (grownBy_putObj' v8 D (.deferred none)) C8.size (fun j e => by cases e; exact hD3)⟩
    simp [results, Try.f6, go_sem]
end Go.Proofs.Ytohdadjknefjcaa
