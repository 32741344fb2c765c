/- Contract: how many chunks are gone over, when one stops behind so many. -/
import Derived.Test.YtbmgapboajdcpaaChunkIter
namespace Go.Proofs.Ytbmgapboajdcpaa
open Go.RowKit Go.Shelf Go.Chunk
attribute [local go_sem] Oper.semAt_some
structure Fs (w : World) (k n : Int) (W : World) : Prop where
  b0 : Boxed W w.heap.size 3 (.int .i64 k)
  b1 : Boxed W (w.heap.size + 1) 3 (.int .i64 n)
  below : Below w.heap.size w W
theorem boxed_row {W : World} {B : Nat} {t : TypeId} {v : Value} {row : Option Nat} (h : Boxed W B t v) (hr : ∀ r, row = some r → ∃ o : Obj, W.heap[r]? = some o ∧ o.isCells = false) : some B ≠ row := fun e => by
  obtain ⟨o, ho, hc⟩ := hr B e.symm
  rw [show W.heap[B]? = _ from h] at ho; cases ho; cases hc
theorem Fs.turned {w : World} {k n : Int} {b : Nat} {W W' : World} {row : Option Nat} (h : Fs w k n W) (hg : W.grownBy W' row) (hr : ∀ r, row = some r → b ≤ r ∧ ∃ o : Obj, W.heap[r]? = some o ∧ o.isCells = false) (hb : w.heap.size ≤ b) : Fs w k n W' :=
  ⟨h.b0.kept hg (boxed_row h.b0 fun r e => (hr r e).2), h.b1.kept hg (boxed_row h.b1 fun r e => (hr r e).2), h.below.grown hg h.below.size fun k e => Nat.le_trans hb (hr k e).1⟩
theorem Fs.set {w : World} {k n : Int} {W : World} (h : Fs w k n W) (m : Int) : Fs w k m (W.setCell ⟨w.heap.size + 1, 0, none⟩ (.int .i64 m)) :=
  ⟨h.b0.other (by omega) _, h.b1.set _, h.below.setCell (p := ⟨w.heap.size + 1, 0, none⟩) (by simp) _⟩
set_option maxHeartbeats 2000000 in
set_option maxRecDepth 100000 in
theorem first_any (s : ByteArray) (k : Nat) (w : World) (hs : s.size ≤ 1000000) (hk : 1 ≤ k) (hk2 : k ≤ 100) :
    Calls Try.prog 20 #[.string s, .int .i64 k] w fun e w' => e = .returned (.int .i64 (min k (texts s).length : Nat)) ∧ Below w.heap.size w w' := by
  have htl := texts_length s
  refine (callsIn_wide (n := 9)).1 ?_
  refine callsIn_of_wp_marks Try.func20 rfl trivial ?_ rfl
  simp only [Try.ntmps20, List.size_toArray, List.length_cons, List.length_nil, Nat.reduceAdd, Nat.reduceSub, Array.replicate_succ, Array.replicate_zero, List.push_toArray, List.append_toArray, List.nil_append, List.cons_append]
  gi_wp2_with (refine ⟨trivial, ?_⟩; gi_at_call 13; refine (callsIn_wide.2 (all_any s _)).mono ?_; rintro e w1 ⟨rfl, rfl⟩)
  have c3 := (Boxed.new ((w.alloc (.cells #[.int .i64 (k : Int)] 3)).alloc (.cells #[.int .i64 0] 3)) 9 (.string s)).cell
  simp only [World.size_alloc] at c3
  have G0 : Fs w k 0 (((w.alloc (.cells #[.int .i64 (k : Int)] 3)).alloc (.cells #[.int .i64 0] 3)).alloc (.cells #[.string s] 9)) :=
    ⟨((Boxed.new w 3 _).alloc _).alloc _, by have := (Boxed.new (w.alloc (.cells #[.int .i64 (k : Int)] 3)) 3 (.int .i64 0)).alloc (.cells #[.string s] 9); rw [World.size_alloc] at this; exact this, (((Below.refl _ w).alloc (Nat.le_refl _) _).alloc (by simp) _).alloc (by simp; omega) _⟩
  refine wpIn_rangeFunc_ownF rfl (by decide) (gf := 21) (lb := #[.pointer (some ⟨w.heap.size + 1 + 1, 0, none⟩)]) rfl trivial (enters_of Try.func21 (by kernel_rfl) rfl)
    (all_in s (w.heap.size + 1 + 1) 8 _ (by unfold maxLen; omega) c3) (fun _ _ => trivial) (fun _ _ _ _ _ _ _ _ => trivial) (Below.refl _ _) (fun _ => rfl)
    (fun pre W => pre.length < k ∧ Fs w k pre.length W)
    (fun c pre W => c = .exit 0 ∧ pre.length = k ∧ Fs w k pre.length W)
    (fun s A B row hs hg hr => ⟨hs.1, hs.2.turned hg hr (by simp; omega)⟩)
    (fun c s A B row hs hg hr => ⟨hs.1, hs.2.1, hs.2.2.turned hg hr (by simp; omega)⟩)
    ⟨hk, G0⟩
    (fun x => { tmps := #[.string s, .int .i64 k, undef, .pointer (some ⟨w.heap.size, 0, none⟩), .int .i64 0, .pointer (some ⟨w.heap.size + 1, 0, none⟩), .string s, .func (.func 21) #[] #[.pointer (some ⟨w.heap.size + 1 + 1, 0, none⟩)], .string x, undef, undef, undef, undef, undef, undef], defers := [] }) ?assign ?body ?done ?stop
  case assign =>
    intro l x W K hK
    gi_wp2
    simpa using hK
  case body =>
    rintro l pre x W ⟨hp, hF⟩ _
    have q0 := hF.b0.cell
    have q1 := hF.b1.cell
    have f1 := hF.b1.frozen
    have HF := hide (hF.set (pre.length + 1 : Int))
    have HS := hide (KeepsOthers.setCell W ⟨w.heap.size + 1, 0, none⟩ (.int .i64 (pre.length + 1 : Int)))
    have r0 := HF.out.b0.cell
    have r1 := HF.out.b1.cell
    have HL : Hid ((pre ++ [x]).length = pre.length + 1) := by show _ = _; simp
    clear hF
    by_cases hge : ((pre.length : Int) + 1 ≥ k)
    · gi_wp2_with fail
      refine ⟨HS.out, rfl, by rw [HL.out]; omega, ?_⟩
      rw [HL.out]
      exact HF.out
    · gi_wp2_with fail
      refine ⟨HS.out, trivial, by rw [HL.out]; omega, ?_⟩
      rw [HL.out]
      exact HF.out
  case done =>
    rintro D ys W hD rfl ⟨hlt, hF⟩ hK
    have q1 := hF.b1.cell
    have HF := hide hF
    clear hF
    gi_wp2
    refine ⟨by simp, .inl ⟨_, _, rfl, run_takeDeferred hK, ?_⟩⟩
    have HF' := hide (HF.out.turned (grownBy_putObj' _ D (.deferred none)) (fun r e => by cases e; exact ⟨hD, _, hK, rfl⟩) (by simp; omega))
    refine ⟨.int .i64 (texts s).length, ?_, ?_, HF'.out.below⟩
    · simp [results, Try.f20, go_sem]
    · rw [Nat.min_eq_right (by omega)]
  case stop =>
    rintro D c pre W hD hpre ⟨rfl, hlt, hF⟩ hK
    have q1 := hF.b1.cell
    have HF := hide hF
    clear hF
    gi_wp2
    refine ⟨by simp, .inl ⟨_, _, rfl, run_takeDeferred hK, ?_⟩⟩
    have HF' := hide (HF.out.turned (grownBy_putObj' _ D (.deferred none)) (fun r e => by cases e; exact ⟨hD, _, hK, rfl⟩) (by simp; omega))
    refine ⟨.int .i64 pre.length, ?_, ?_, HF'.out.below⟩
    · simp [results, Try.f20, go_sem, hlt]
    · rw [Nat.min_eq_left (by have := hpre.length_le; omega), hlt]
end Go.Proofs.Ytbmgapboajdcpaa
