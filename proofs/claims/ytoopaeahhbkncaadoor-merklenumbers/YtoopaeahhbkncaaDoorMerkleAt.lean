/- Contract: the chunk at a place. -/
import Derived.Test.YtoopaeahhbkncaaDoorMerkleOfMem
namespace Go.Proofs.YtoopaeahhbkncaaDoor
open Go.RowKit Go.Shelf Go.Wire Go.Mk Go.Chunk
attribute [local go_sem] Oper.semAt_some
structure Cs (w : World) (k : Int) (r : ByteArray) (W : World) : Prop where
  b0 : Boxed W w.heap.size 3 (.int .i64 k)
  b1 : Boxed W (w.heap.size + 1) 9 (.string r)
  below : Below w.heap.size w W
theorem box_row {W : World} {B : Nat} {t : TypeId} {v : Value} {row : Option Nat} (h : Boxed W B t v) (hr : ∀ r, row = some r → ∃ o : Obj, W.heap[r]? = some o ∧ o.isCells = false) : some B ≠ row := fun e => by
  obtain ⟨o, ho, hc⟩ := hr B e.symm
  rw [show W.heap[B]? = _ from h] at ho; cases ho; cases hc
theorem Cs.turned {w : World} {k : Int} {q : ByteArray} {b : Nat} {W W' : World} {row : Option Nat} (h : Cs w k q W) (hg : W.grownBy W' row) (hr : ∀ r, row = some r → b ≤ r ∧ ∃ o : Obj, W.heap[r]? = some o ∧ o.isCells = false) (hb : w.heap.size ≤ b) : Cs w k q W' :=
  ⟨h.b0.kept hg (box_row h.b0 fun r e => (hr r e).2), h.b1.kept hg (box_row h.b1 fun r e => (hr r e).2), h.below.grown hg h.below.size fun k e => Nat.le_trans hb (hr k e).1⟩
theorem Cs.set0 {w : World} {k : Int} {q : ByteArray} {W : World} (h : Cs w k q W) (m : Int) : Cs w m q (W.setCell ⟨w.heap.size, 0, none⟩ (.int .i64 m)) :=
  ⟨h.b0.set _, h.b1.other (by omega) _, h.below.setCell (p := ⟨w.heap.size, 0, none⟩) (Nat.le_refl _) _⟩
theorem Cs.set1 {w : World} {k : Int} {q : ByteArray} {W : World} (h : Cs w k q W) (r : ByteArray) : Cs w k r (W.setCell ⟨w.heap.size + 1, 0, none⟩ (.string r)) :=
  ⟨h.b0.other (by omega) _, h.b1.set _, h.below.setCell (p := ⟨w.heap.size + 1, 0, none⟩) (by simp) _⟩
set_option maxHeartbeats 2000000 in
set_option maxRecDepth 100000 in
theorem chunkAt_any (s : ByteArray) (k : Nat) (t : ByteArray) (w : World) (hs : s.size ≤ 8192) (ht : (texts s)[k]? = some t) :
    Calls Tryd.prog 67 #[.string s, .int .i64 k] w fun e w' => e = .returned (.string t) ∧ Below w.heap.size w w' := by
  have htl := texts_length s
  have hk : k < (texts s).length := (List.getElem?_eq_some_iff.1 ht).1
  have HT := hide ht
  clear ht
  refine (callsIn_wide (n := 9)).1 ?_
  refine callsIn_of_wp_marks Tryd.func67 rfl trivial ?_ rfl
  simp only [Tryd.ntmps67, List.size_toArray, List.length_cons, List.length_nil, Nat.reduceAdd, Nat.reduceSub, Array.replicate_succ, Array.replicate_zero, List.push_toArray, List.append_toArray, List.nil_append, List.cons_append]
  gi_wp2_with (refine ⟨trivial, ?_⟩; gi_at_call 37; refine (callsIn_wide.2 (all_any s _)).mono ?_; rintro e w1 ⟨rfl, rfl⟩)
  have c3 := (Boxed.new ((w.alloc (.cells #[.int .i64 (k : Int)] 3)).alloc (.cells #[.string ⟨#[]⟩] 9)) 9 (.string s)).cell
  simp only [World.size_alloc] at c3
  have G0 : Cs w k ⟨#[]⟩ (((w.alloc (.cells #[.int .i64 (k : Int)] 3)).alloc (.cells #[.string ⟨#[]⟩] 9)).alloc (.cells #[.string s] 9)) :=
    ⟨((Boxed.new w 3 _).alloc _).alloc _, by have := (Boxed.new (w.alloc (.cells #[.int .i64 (k : Int)] 3)) 9 (.string ⟨#[]⟩)).alloc (.cells #[.string s] 9); rw [World.size_alloc] at this; exact this, (((Below.refl _ w).alloc (Nat.le_refl _) _).alloc (by simp) _).alloc (by simp; omega) _⟩
  refine wpIn_rangeFunc_ownF rfl (by decide) (gf := 65) (lb := #[.pointer (some ⟨w.heap.size + 1 + 1, 0, none⟩)]) rfl trivial (enters_of Tryd.func65 (by kernel_rfl) rfl)
    (all_in s (w.heap.size + 1 + 1) 8 _ (by unfold maxLen; omega) c3) (fun _ _ => trivial) (fun _ _ _ _ _ _ _ _ => trivial) (Below.refl _ _) (fun _ => rfl)
    (fun pre W => pre.length ≤ k ∧ Cs w (k - pre.length) ⟨#[]⟩ W)
    (fun c pre W => c = .ret ∧ ∃ (p : List ByteArray) (x : ByteArray), pre = p ++ [x] ∧ p.length = k ∧ Cs w 0 x W)
    (fun s A B row hs hg hr => ⟨hs.1, hs.2.turned hg hr (by simp; omega)⟩)
    (fun c s A B row hs hg hr => ⟨hs.1, let ⟨p, x, h1, h2, h3⟩ := hs.2; ⟨p, x, h1, h2, h3.turned hg hr (by simp; omega)⟩⟩)
    ⟨Nat.zero_le _, by simpa using G0⟩
    (fun x => { tmps := #[.string s, .int .i64 k, undef, .pointer (some ⟨w.heap.size, 0, none⟩), .pointer (some ⟨w.heap.size + 1, 0, none⟩), .string x, .string s, .func (.func 65) #[] #[.pointer (some ⟨w.heap.size + 1 + 1, 0, none⟩)], .string x, undef, undef, undef, undef, undef], defers := [] }) ?assign ?body ?done ?stop
  case assign =>
    intro l x W K hK
    gi_wp2
    simpa using hK
  case body =>
    rintro l pre x W ⟨hp, hC⟩ _
    have q0 := hC.b0.cell
    have q1 := hC.b1.cell
    have f0 := hC.b0.frozen
    have f1 := hC.b1.frozen
    have HC := hide hC
    clear hC
    by_cases hpk : pre.length = k
    · have e0 : (k : Int) - pre.length = 0 := by omega
      rw [e0] at q0 HC
      have HS := hide (KeepsOthers.setCell W ⟨w.heap.size + 1, 0, none⟩ (.string x))
      have HC1 := hide (HC.out.set1 x)
      gi_wp2_with fail
      exact ⟨HS.out, rfl, pre, x, rfl, hpk, HC1.out⟩
    · have e0 : ¬ ((k : Int) - pre.length = 0) := by omega
      have e1 : (0 : Int) < k - pre.length := by omega
      have HS := hide (KeepsOthers.setCell W ⟨w.heap.size, 0, none⟩ (.int .i64 ((k : Int) - pre.length - 1)))
      have HC1 := hide (HC.out.set0 ((k : Int) - pre.length - 1))
      gi_wp2_with fail
      refine ⟨HS.out, trivial, by simp; omega, ?_⟩
      rw [show (k : Int) - ((pre ++ [x]).length : Nat) = (k : Int) - pre.length - 1 by simp; omega]
      exact HC1.out
  case done =>
    rintro D ys W hD rfl ⟨hlt, hC⟩ hK
    omega
  case stop =>
    rintro D c pre W hD hpre ⟨rfl, p, x, rfl, hp, hC⟩ hK
    have hx : x = t := by
      have h1 := HT.out
      obtain ⟨r, hr⟩ := hpre
      rw [← hr, List.append_assoc, List.getElem?_append_right (by omega), hp] at h1
      simpa using h1
    subst hx
    have q1 := hC.b1.cell
    have HC := hide hC
    clear hC
    gi_wp2
    refine ⟨by simp, .inl ⟨_, _, rfl, run_takeDeferred hK, ?_⟩⟩
    have HC' := hide (HC.out.turned (grownBy_putObj' _ D (.deferred none)) (fun r e => by cases e; exact ⟨hD, _, hK, rfl⟩) (by simp; omega))
    have c1 := HC'.out.b1.cell
    refine ⟨.string x, ?_, rfl, HC'.out.below⟩
    simp [results, Tryd.f67, go_sem, c1]
end Go.Proofs.YtoopaeahhbkncaaDoor
