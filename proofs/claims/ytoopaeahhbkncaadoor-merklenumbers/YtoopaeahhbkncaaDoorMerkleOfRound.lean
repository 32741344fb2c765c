/- One round of Of: a region that draws its order and makes memory, inside a round; state by state (laid by tools/genof.py). -/
import Derived.Test.YtoopaeahhbkncaaDoorMerkleOfMem
namespace Go.QTail
variable {F : Fence} {n : Nat} {P : Program} {ops : Array Oper} {Q : Exit → Act → World → Prop}
theorem anyIn_step {f : Nat} {listed : Array Bool} {a : Act} {w : World} (rs : List Nat) (hr : Region.ready .any ops listed = rs) (hne : rs ≠ [])
    (h : ∀ i ∈ rs, wpOpIn F n P ops Q i (wpAnyIn F n P .any ops Q f (listed.setIfInBounds i true)) a w) : wpAnyIn F n P .any ops Q (f + 1) listed a w :=
  ⟨fun h0 => absurd (hr.symm.trans h0) hne, fun i hi => h i (by rw [← hr]; exact hi)⟩
/-- What follows a single operation. -/
def Qk (K : Act → World → Prop) (Q : Exit → Act → World → Prop) : Exit → Act → World → Prop
  | .normal, a, w => K a w
  | e, a, w => Q e a w
theorem opIn_of_list {i : Nat} {o : Oper} {K : Act → World → Prop} {a : Act} {w : World} (hi : ops[i]? = some o) (h : wpListIn F n P ops (Qk K Q) [o] a w) : wpOpIn F n P ops Q i K a w := by
  unfold wpOpIn
  simp only [hi]
  unfold wpListIn at h
  split
  · rename_i hw
    rw [if_pos hw] at h
    refine ⟨h.1, ?_⟩
    have h2 := h.2
    generalize (o.semAt F.round a.eval).run P w = r at h2 ⊢
    cases r with
    | ok x w' =>
      cases x <;> first | exact h2 | exact ⟨h2.1, CallsIn.mono h2.2 (fun e w'' he => by cases e <;> exact he)⟩ | exact ⟨h2.1, RowsIn.mono h2.2 (fun _ _ he => he)⟩ | exact ⟨h2.1, RoundIn.mono h2.2 (fun e w'' he => by cases e <;> exact he)⟩
    | halt x w' => cases x <;> exact h2
  · rename_i hw
    rw [if_neg hw] at h
    exact h
end Go.QTail
namespace Go.Proofs.YtoopaeahhbkncaaDoor
open Go.RowKit Go.Shelf Go.Wire Go.Mk Go.Chunk Go.QTail
attribute [local go_sem] Oper.semAt_some
set_option maxHeartbeats 4000000 in
set_option maxRecDepth 100000 in
theorem of_round (s : ByteArray) (w W : World) (l n : Nat) (pre : List Short) (x : Short) (va : Option Addr) (vc : Nat) (hpl : (strs pre).length = pre.length) (hlen : pre.length ≤ 8192) (ops : Array Oper) (Q : Exit → Act → World → Prop) (t0 : TypeId) (p0 : String) (f0 : Array Edge) (t1 : TypeId) (p1 : String) (f1 : Array Edge) (t2 : TypeId) (p2 : String) (f2 : Array Edge) (t3 : TypeId) (p3 : String) (f3 : Array Edge) (t4 : TypeId) (p4 : String) (f4 : Array Edge) (t5 : TypeId) (p5 : String) (f5 : Array Edge) (t6 : TypeId) (p6 : String) (f6 : Array Edge) (t7 : TypeId) (p7 : String) (f7 : Array Edge)
    (h0 : ops[0]? = some ⟨some 16, .fieldAddr 26 (.tmp 4) 1, t0, p0, f0, none⟩)
    (h1 : ops[1]? = some ⟨some 17, .load 24 (.tmp 16), t1, p1, f1, none⟩)
    (h2 : ops[2]? = some ⟨some 18, .move (.tmp 5), t2, p2, f2, none⟩)
    (h3 : ops[3]? = some ⟨some 19, .call { callee := .value (.func 18), args := #[.tmp 18], argTypes := #[9] }, t3, p3, f3, none⟩)
    (h4 : ops[4]? = some ⟨some 20, .buildSlice 24 1 #[(0, .tmp 19)], t4, p4, f4, none⟩)
    (h5 : ops[5]? = some ⟨some 21, .call { callee := .builtin .append, args := #[.tmp 17, .tmp 20], argTypes := #[24, 24] }, t5, p5, f5, none⟩)
    (h6 : ops[6]? = some ⟨some 22, .fieldAddr 26 (.tmp 4) 1, t6, p6, f6, none⟩)
    (h7 : ops[7]? = some ⟨none, .store 24 (.tmp 22) (.tmp 21), t7, p7, f7, none⟩)
    (rS0123456 : Region.ready .any ops #[true, true, true, true, true, true, true, false] = [7])
    (rS012345 : Region.ready .any ops #[true, true, true, true, true, true, false, false] = [6])
    (rS01234 : Region.ready .any ops #[true, true, true, true, true, false, false, false] = [5])
    (rS0123 : Region.ready .any ops #[true, true, true, true, false, false, false, false] = [4])
    (rS0234 : Region.ready .any ops #[true, false, true, true, true, false, false, false] = [1])
    (rS012 : Region.ready .any ops #[true, true, true, false, false, false, false, false] = [3])
    (rS023 : Region.ready .any ops #[true, false, true, true, false, false, false, false] = [1, 4])
    (rS234 : Region.ready .any ops #[false, false, true, true, true, false, false, false] = [0])
    (rS01 : Region.ready .any ops #[true, true, false, false, false, false, false, false] = [2])
    (rS02 : Region.ready .any ops #[true, false, true, false, false, false, false, false] = [1, 3])
    (rS23 : Region.ready .any ops #[false, false, true, true, false, false, false, false] = [0, 4])
    (rS0 : Region.ready .any ops #[true, false, false, false, false, false, false, false] = [1, 2])
    (rS2 : Region.ready .any ops #[false, false, true, false, false, false, false, false] = [0, 3])
    (rS : Region.ready .any ops #[false, false, false, false, false, false, false, false] = [0, 2])
    (rAll : Region.ready .any ops #[true, true, true, true, true, true, true, true] = [])
    (HD : Hid (∀ (U : World), Below W.heap.size W U → Calls Tryd.prog 18 #[.string x.1] U fun e w' => e = .returned (.string (digest x.1)) ∧ Below W.heap.size W w'))
    (HM : Hid (Ms w s.size (strs pre) W)) (HV : Hid (W.heap[w.heap.size + 1]? = some (.cells #[.int .i64 s.size, .slice va pre.length vc] 26 (0, 0)))) (HR0 : Hid (W.ownsRow w.heap.size 9 1 (.slice va pre.length vc) (strs pre).length ((strs pre).map fun x => Value.string (digest x))))
    (q0 : W.cell? ⟨w.heap.size + 1, 1, none⟩ = some (.slice va pre.length vc))
    (HQ : Hid (∀ (a : Act) (w3 : World) (g cap : Nat), Ms w s.size (strs pre ++ [x.1]) (w3.setCell ⟨w.heap.size + 1, 1, none⟩ (.slice (some ⟨g, 0, none⟩) (pre.length + 1) cap)) ∧ KeepsOthers W (w3.setCell ⟨w.heap.size + 1, 1, none⟩ (.slice (some ⟨g, 0, none⟩) (pre.length + 1) cap)) → Q .normal a (w3.setCell ⟨w.heap.size + 1, 1, none⟩ (.slice (some ⟨g, 0, none⟩) (pre.length + 1) cap)))) :
    wpAnyIn (Fence.wide.inRound l) n Tryd.prog .any ops Q 8 #[false, false, false, false, false, false, false, false] { tmps := #[.string s, undef, .pointer (some ⟨w.heap.size, 0, none⟩), .int .i64 0, .pointer (some ⟨w.heap.size + 1, 0, none⟩), .string x.1, .string s, .int .i64 s.size, .bool (decide (8192 < (s.size : Int))), undef, .string s, .int .i64 s.size, .agg #[.int .i64 s.size, .slice none 0 0], .string s, .func (.func 65) #[] #[.pointer (some ⟨w.heap.size + 1 + 1, 0, none⟩)], .string x.1, undef, undef, undef, undef, undef, undef, undef, undef], defers := [] } W.drew := by
  obtain ⟨i9, hi9, hz0, hz1, hz2⟩ := info_parts ciInfo9
  have hlt : w.heap.size + 1 < W.heap.size := (Array.getElem?_eq_some_iff.1 HV.out).1
  have HR : Hid (W.ownsRow w.heap.size 9 1 (.slice va pre.length vc) pre.length ((strs pre).map fun x => Value.string (digest x))) := by have := HR0.out; rwa [hpl] at this
  have HC : Hid (∀ U, Below W.heap.size W U → U.cell? ⟨w.heap.size + 1, 1, none⟩ = some (.slice va pre.length vc)) := fun U h => (h.cell (p := ⟨w.heap.size + 1, 1, none⟩) hlt).trans q0
  have hcall := Tryd.call18
  have S0123456 : ∀ (U w3 : World) (g cap : Nat), w3.cell? ⟨w.heap.size + 1, 1, none⟩ = some (.slice va pre.length vc) → w3.frozen? ⟨w.heap.size + 1, 1, none⟩ = false → Hid (Ms w s.size (strs pre ++ [x.1]) (w3.setCell ⟨w.heap.size + 1, 1, none⟩ (.slice (some ⟨g, 0, none⟩) (pre.length + 1) cap)) ∧ KeepsOthers W (w3.setCell ⟨w.heap.size + 1, 1, none⟩ (.slice (some ⟨g, 0, none⟩) (pre.length + 1) cap))) → wpAnyIn (Fence.wide.inRound l) n Tryd.prog .any ops Q 1 #[true, true, true, true, true, true, true, false] { tmps := #[.string s, undef, .pointer (some ⟨w.heap.size, 0, none⟩), .int .i64 0, .pointer (some ⟨w.heap.size + 1, 0, none⟩), .string x.1, .string s, .int .i64 s.size, .bool (decide (8192 < (s.size : Int))), undef, .string s, .int .i64 s.size, .agg #[.int .i64 s.size, .slice none 0 0], .string s, .func (.func 65) #[] #[.pointer (some ⟨w.heap.size + 1 + 1, 0, none⟩)], .string x.1, .pointer (some ⟨w.heap.size + 1, 1, none⟩), .slice va pre.length vc, .string x.1, .string (digest x.1), .slice (some ⟨U.heap.size, 0, none⟩) 1 1, .slice (some ⟨g, 0, none⟩) (pre.length + 1) cap, .pointer (some ⟨w.heap.size + 1, 1, none⟩), undef], defers := [] } w3 := by
    intro U w3 g cap t0 g0 HB
    refine anyIn_step [7] rS0123456 (by simp) ?_
    intro i hi
    obtain rfl : i = 7 := by simpa using hi
    · refine opIn_of_list h7 ?_
      gi_wp2_with fail
      exact ⟨rAll, HQ.out _ w3 g cap HB.out⟩
  have S012345 : ∀ (U w3 : World) (g cap : Nat), w3.cell? ⟨w.heap.size + 1, 1, none⟩ = some (.slice va pre.length vc) → w3.frozen? ⟨w.heap.size + 1, 1, none⟩ = false → Hid (Ms w s.size (strs pre ++ [x.1]) (w3.setCell ⟨w.heap.size + 1, 1, none⟩ (.slice (some ⟨g, 0, none⟩) (pre.length + 1) cap)) ∧ KeepsOthers W (w3.setCell ⟨w.heap.size + 1, 1, none⟩ (.slice (some ⟨g, 0, none⟩) (pre.length + 1) cap))) → wpAnyIn (Fence.wide.inRound l) n Tryd.prog .any ops Q 2 #[true, true, true, true, true, true, false, false] { tmps := #[.string s, undef, .pointer (some ⟨w.heap.size, 0, none⟩), .int .i64 0, .pointer (some ⟨w.heap.size + 1, 0, none⟩), .string x.1, .string s, .int .i64 s.size, .bool (decide (8192 < (s.size : Int))), undef, .string s, .int .i64 s.size, .agg #[.int .i64 s.size, .slice none 0 0], .string s, .func (.func 65) #[] #[.pointer (some ⟨w.heap.size + 1 + 1, 0, none⟩)], .string x.1, .pointer (some ⟨w.heap.size + 1, 1, none⟩), .slice va pre.length vc, .string x.1, .string (digest x.1), .slice (some ⟨U.heap.size, 0, none⟩) 1 1, .slice (some ⟨g, 0, none⟩) (pre.length + 1) cap, undef, undef], defers := [] } w3 := by
    intro U w3 g cap t0 g0 HB
    refine anyIn_step [6] rS012345 (by simp) ?_
    intro i hi
    obtain rfl : i = 6 := by simpa using hi
    · refine opIn_of_list h6 ?_
      gi_wp2_with fail
      exact S0123456 U w3 g cap t0 g0 HB
  have S01234 : ∀ (U : World), Hid (Below W.heap.size W U) → wpAnyIn (Fence.wide.inRound l) n Tryd.prog .any ops Q 3 #[true, true, true, true, true, false, false, false] { tmps := #[.string s, undef, .pointer (some ⟨w.heap.size, 0, none⟩), .int .i64 0, .pointer (some ⟨w.heap.size + 1, 0, none⟩), .string x.1, .string s, .int .i64 s.size, .bool (decide (8192 < (s.size : Int))), undef, .string s, .int .i64 s.size, .agg #[.int .i64 s.size, .slice none 0 0], .string s, .func (.func 65) #[] #[.pointer (some ⟨w.heap.size + 1 + 1, 0, none⟩)], .string x.1, .pointer (some ⟨w.heap.size + 1, 1, none⟩), .slice va pre.length vc, .string x.1, .string (digest x.1), .slice (some ⟨U.heap.size, 0, none⟩) 1 1, undef, undef, undef], defers := [] } (U.alloc (.cells #[.string (digest x.1)] 9)) := by
    intro U K2
    refine anyIn_step [5] rS01234 (by simp) ?_
    intro i hi
    obtain rfl : i = 5 := by simpa using hi
    · refine opIn_of_list h5 ?_
      gi_at_builtin
      refine wpListIn_append_own _ rfl _ _ 24 rfl w.heap.size 9 i9 (.string ⟨#[]⟩) 1 16 ciUnder24 hi9 hz0 hz1 hz2 rfl (by decide) _ _ _ rfl ((own_below HR.out K2.out).alloc _) ⟨U.heap.size, 0, none⟩ 1 1 [.string (digest x.1)] rfl rfl (cell_one_new _ _ _) (by intro u hu; simp at hu; subst hu; rfl) (by unfold maxLen; omega) (by omega) (by have h1 := HM.out.below.size; have h2 := K2.out.size; simp; omega) ?_
      intro v' w3 hown hgrow _
      obtain ⟨g, cap, rfl⟩ := ownsRow_succ hown
      obtain ⟨b1, b2, b3⟩ := Ms.appended HM.out HV.out HR0.out K2.out (by rw [hpl]; exact hown) hgrow
      have t0 : w3.cell? ⟨w.heap.size + 1, 1, none⟩ = some (.slice va pre.length vc) := by rw [cell_of_row _ _ _ _ _ _ b1]; rfl
      exact S012345 U w3 g cap t0 (frozen_of_row _ _ 1 _ _ b1) ⟨b2, b3⟩
  have S0123 : ∀ (U : World), Hid (Below W.heap.size W U) → wpAnyIn (Fence.wide.inRound l) n Tryd.prog .any ops Q 4 #[true, true, true, true, false, false, false, false] { tmps := #[.string s, undef, .pointer (some ⟨w.heap.size, 0, none⟩), .int .i64 0, .pointer (some ⟨w.heap.size + 1, 0, none⟩), .string x.1, .string s, .int .i64 s.size, .bool (decide (8192 < (s.size : Int))), undef, .string s, .int .i64 s.size, .agg #[.int .i64 s.size, .slice none 0 0], .string s, .func (.func 65) #[] #[.pointer (some ⟨w.heap.size + 1 + 1, 0, none⟩)], .string x.1, .pointer (some ⟨w.heap.size + 1, 1, none⟩), .slice va pre.length vc, .string x.1, .string (digest x.1), undef, undef, undef, undef], defers := [] } U := by
    intro U K2
    refine anyIn_step [4] rS0123 (by simp) ?_
    intro i hi
    obtain rfl : i = 4 := by simpa using hi
    · refine opIn_of_list h4 ?_
      gi_wp2_with fail
      exact S01234 U K2
  have S0234 : ∀ (U : World), Hid (Below W.heap.size W U) → wpAnyIn (Fence.wide.inRound l) n Tryd.prog .any ops Q 4 #[true, false, true, true, true, false, false, false] { tmps := #[.string s, undef, .pointer (some ⟨w.heap.size, 0, none⟩), .int .i64 0, .pointer (some ⟨w.heap.size + 1, 0, none⟩), .string x.1, .string s, .int .i64 s.size, .bool (decide (8192 < (s.size : Int))), undef, .string s, .int .i64 s.size, .agg #[.int .i64 s.size, .slice none 0 0], .string s, .func (.func 65) #[] #[.pointer (some ⟨w.heap.size + 1 + 1, 0, none⟩)], .string x.1, .pointer (some ⟨w.heap.size + 1, 1, none⟩), undef, .string x.1, .string (digest x.1), .slice (some ⟨U.heap.size, 0, none⟩) 1 1, undef, undef, undef], defers := [] } (U.alloc (.cells #[.string (digest x.1)] 9)) := by
    intro U K2
    refine anyIn_step [1] rS0234 (by simp) ?_
    intro i hi
    obtain rfl : i = 1 := by simpa using hi
    · refine opIn_of_list h1 ?_
      have e0 := HC.out U K2.out
      have e1 : (U.alloc (.cells #[.string (digest x.1)] 9)).cell? ⟨w.heap.size + 1, 1, none⟩ = some (.slice va pre.length vc) := HC.out _ (K2.out.alloc K2.out.size _)
      gi_wp2_with fail
      exact S01234 U K2
  have S012 : ∀ (U : World), Hid (Below W.heap.size W U) → wpAnyIn (Fence.wide.inRound l) n Tryd.prog .any ops Q 5 #[true, true, true, false, false, false, false, false] { tmps := #[.string s, undef, .pointer (some ⟨w.heap.size, 0, none⟩), .int .i64 0, .pointer (some ⟨w.heap.size + 1, 0, none⟩), .string x.1, .string s, .int .i64 s.size, .bool (decide (8192 < (s.size : Int))), undef, .string s, .int .i64 s.size, .agg #[.int .i64 s.size, .slice none 0 0], .string s, .func (.func 65) #[] #[.pointer (some ⟨w.heap.size + 1 + 1, 0, none⟩)], .string x.1, .pointer (some ⟨w.heap.size + 1, 1, none⟩), .slice va pre.length vc, .string x.1, undef, undef, undef, undef, undef], defers := [] } U := by
    intro U K2
    refine anyIn_step [3] rS012 (by simp) ?_
    intro i hi
    obtain rfl : i = 3 := by simpa using hi
    · refine opIn_of_list h3 ?_
      gi_wp2_with (refine ⟨trivial, fun h => (by cases h), ?_⟩; gi_at_call 18; refine (CallsIn.inRound l (callsIn_wide.2 (HD.out _ K2.out))).mono ?_; rintro e w2 ⟨rfl, k2⟩)
      exact S0123 w2 k2
  have S023 : ∀ (U : World), Hid (Below W.heap.size W U) → wpAnyIn (Fence.wide.inRound l) n Tryd.prog .any ops Q 5 #[true, false, true, true, false, false, false, false] { tmps := #[.string s, undef, .pointer (some ⟨w.heap.size, 0, none⟩), .int .i64 0, .pointer (some ⟨w.heap.size + 1, 0, none⟩), .string x.1, .string s, .int .i64 s.size, .bool (decide (8192 < (s.size : Int))), undef, .string s, .int .i64 s.size, .agg #[.int .i64 s.size, .slice none 0 0], .string s, .func (.func 65) #[] #[.pointer (some ⟨w.heap.size + 1 + 1, 0, none⟩)], .string x.1, .pointer (some ⟨w.heap.size + 1, 1, none⟩), undef, .string x.1, .string (digest x.1), undef, undef, undef, undef], defers := [] } U := by
    intro U K2
    refine anyIn_step [1, 4] rS023 (by simp) ?_
    intro i hi
    simp only [List.mem_cons, List.mem_nil_iff, or_false] at hi
    rcases hi with rfl | rfl
    · refine opIn_of_list h1 ?_
      have e0 := HC.out U K2.out
      gi_wp2_with fail
      exact S0123 U K2
    · refine opIn_of_list h4 ?_
      gi_wp2_with fail
      exact S0234 U K2
  have S234 : ∀ (U : World), Hid (Below W.heap.size W U) → wpAnyIn (Fence.wide.inRound l) n Tryd.prog .any ops Q 5 #[false, false, true, true, true, false, false, false] { tmps := #[.string s, undef, .pointer (some ⟨w.heap.size, 0, none⟩), .int .i64 0, .pointer (some ⟨w.heap.size + 1, 0, none⟩), .string x.1, .string s, .int .i64 s.size, .bool (decide (8192 < (s.size : Int))), undef, .string s, .int .i64 s.size, .agg #[.int .i64 s.size, .slice none 0 0], .string s, .func (.func 65) #[] #[.pointer (some ⟨w.heap.size + 1 + 1, 0, none⟩)], .string x.1, undef, undef, .string x.1, .string (digest x.1), .slice (some ⟨U.heap.size, 0, none⟩) 1 1, undef, undef, undef], defers := [] } (U.alloc (.cells #[.string (digest x.1)] 9)) := by
    intro U K2
    refine anyIn_step [0] rS234 (by simp) ?_
    intro i hi
    obtain rfl : i = 0 := by simpa using hi
    · refine opIn_of_list h0 ?_
      gi_wp2_with fail
      exact S0234 U K2
  have S01 : ∀ (U : World), Hid (Below W.heap.size W U) → wpAnyIn (Fence.wide.inRound l) n Tryd.prog .any ops Q 6 #[true, true, false, false, false, false, false, false] { tmps := #[.string s, undef, .pointer (some ⟨w.heap.size, 0, none⟩), .int .i64 0, .pointer (some ⟨w.heap.size + 1, 0, none⟩), .string x.1, .string s, .int .i64 s.size, .bool (decide (8192 < (s.size : Int))), undef, .string s, .int .i64 s.size, .agg #[.int .i64 s.size, .slice none 0 0], .string s, .func (.func 65) #[] #[.pointer (some ⟨w.heap.size + 1 + 1, 0, none⟩)], .string x.1, .pointer (some ⟨w.heap.size + 1, 1, none⟩), .slice va pre.length vc, undef, undef, undef, undef, undef, undef], defers := [] } U := by
    intro U K2
    refine anyIn_step [2] rS01 (by simp) ?_
    intro i hi
    obtain rfl : i = 2 := by simpa using hi
    · refine opIn_of_list h2 ?_
      gi_wp2_with fail
      exact S012 U K2
  have S02 : ∀ (U : World), Hid (Below W.heap.size W U) → wpAnyIn (Fence.wide.inRound l) n Tryd.prog .any ops Q 6 #[true, false, true, false, false, false, false, false] { tmps := #[.string s, undef, .pointer (some ⟨w.heap.size, 0, none⟩), .int .i64 0, .pointer (some ⟨w.heap.size + 1, 0, none⟩), .string x.1, .string s, .int .i64 s.size, .bool (decide (8192 < (s.size : Int))), undef, .string s, .int .i64 s.size, .agg #[.int .i64 s.size, .slice none 0 0], .string s, .func (.func 65) #[] #[.pointer (some ⟨w.heap.size + 1 + 1, 0, none⟩)], .string x.1, .pointer (some ⟨w.heap.size + 1, 1, none⟩), undef, .string x.1, undef, undef, undef, undef, undef], defers := [] } U := by
    intro U K2
    refine anyIn_step [1, 3] rS02 (by simp) ?_
    intro i hi
    simp only [List.mem_cons, List.mem_nil_iff, or_false] at hi
    rcases hi with rfl | rfl
    · refine opIn_of_list h1 ?_
      have e0 := HC.out U K2.out
      gi_wp2_with fail
      exact S012 U K2
    · refine opIn_of_list h3 ?_
      gi_wp2_with (refine ⟨trivial, fun h => (by cases h), ?_⟩; gi_at_call 18; refine (CallsIn.inRound l (callsIn_wide.2 (HD.out _ K2.out))).mono ?_; rintro e w2 ⟨rfl, k2⟩)
      exact S023 w2 k2
  have S23 : ∀ (U : World), Hid (Below W.heap.size W U) → wpAnyIn (Fence.wide.inRound l) n Tryd.prog .any ops Q 6 #[false, false, true, true, false, false, false, false] { tmps := #[.string s, undef, .pointer (some ⟨w.heap.size, 0, none⟩), .int .i64 0, .pointer (some ⟨w.heap.size + 1, 0, none⟩), .string x.1, .string s, .int .i64 s.size, .bool (decide (8192 < (s.size : Int))), undef, .string s, .int .i64 s.size, .agg #[.int .i64 s.size, .slice none 0 0], .string s, .func (.func 65) #[] #[.pointer (some ⟨w.heap.size + 1 + 1, 0, none⟩)], .string x.1, undef, undef, .string x.1, .string (digest x.1), undef, undef, undef, undef], defers := [] } U := by
    intro U K2
    refine anyIn_step [0, 4] rS23 (by simp) ?_
    intro i hi
    simp only [List.mem_cons, List.mem_nil_iff, or_false] at hi
    rcases hi with rfl | rfl
    · refine opIn_of_list h0 ?_
      gi_wp2_with fail
      exact S023 U K2
    · refine opIn_of_list h4 ?_
      gi_wp2_with fail
      exact S234 U K2
  have S0 : ∀ (U : World), Hid (Below W.heap.size W U) → wpAnyIn (Fence.wide.inRound l) n Tryd.prog .any ops Q 7 #[true, false, false, false, false, false, false, false] { tmps := #[.string s, undef, .pointer (some ⟨w.heap.size, 0, none⟩), .int .i64 0, .pointer (some ⟨w.heap.size + 1, 0, none⟩), .string x.1, .string s, .int .i64 s.size, .bool (decide (8192 < (s.size : Int))), undef, .string s, .int .i64 s.size, .agg #[.int .i64 s.size, .slice none 0 0], .string s, .func (.func 65) #[] #[.pointer (some ⟨w.heap.size + 1 + 1, 0, none⟩)], .string x.1, .pointer (some ⟨w.heap.size + 1, 1, none⟩), undef, undef, undef, undef, undef, undef, undef], defers := [] } U := by
    intro U K2
    refine anyIn_step [1, 2] rS0 (by simp) ?_
    intro i hi
    simp only [List.mem_cons, List.mem_nil_iff, or_false] at hi
    rcases hi with rfl | rfl
    · refine opIn_of_list h1 ?_
      have e0 := HC.out U K2.out
      gi_wp2_with fail
      exact S01 U K2
    · refine opIn_of_list h2 ?_
      gi_wp2_with fail
      exact S02 U K2
  have S2 : ∀ (U : World), Hid (Below W.heap.size W U) → wpAnyIn (Fence.wide.inRound l) n Tryd.prog .any ops Q 7 #[false, false, true, false, false, false, false, false] { tmps := #[.string s, undef, .pointer (some ⟨w.heap.size, 0, none⟩), .int .i64 0, .pointer (some ⟨w.heap.size + 1, 0, none⟩), .string x.1, .string s, .int .i64 s.size, .bool (decide (8192 < (s.size : Int))), undef, .string s, .int .i64 s.size, .agg #[.int .i64 s.size, .slice none 0 0], .string s, .func (.func 65) #[] #[.pointer (some ⟨w.heap.size + 1 + 1, 0, none⟩)], .string x.1, undef, undef, .string x.1, undef, undef, undef, undef, undef], defers := [] } U := by
    intro U K2
    refine anyIn_step [0, 3] rS2 (by simp) ?_
    intro i hi
    simp only [List.mem_cons, List.mem_nil_iff, or_false] at hi
    rcases hi with rfl | rfl
    · refine opIn_of_list h0 ?_
      gi_wp2_with fail
      exact S02 U K2
    · refine opIn_of_list h3 ?_
      gi_wp2_with (refine ⟨trivial, fun h => (by cases h), ?_⟩; gi_at_call 18; refine (CallsIn.inRound l (callsIn_wide.2 (HD.out _ K2.out))).mono ?_; rintro e w2 ⟨rfl, k2⟩)
      exact S23 w2 k2
  have K2 : Hid (Below W.heap.size W W.drew) := ⟨rfl, rfl, rfl, Nat.le_refl _, fun _ _ => rfl⟩
  have S : ∀ (U : World), Hid (Below W.heap.size W U) → wpAnyIn (Fence.wide.inRound l) n Tryd.prog .any ops Q 8 #[false, false, false, false, false, false, false, false] { tmps := #[.string s, undef, .pointer (some ⟨w.heap.size, 0, none⟩), .int .i64 0, .pointer (some ⟨w.heap.size + 1, 0, none⟩), .string x.1, .string s, .int .i64 s.size, .bool (decide (8192 < (s.size : Int))), undef, .string s, .int .i64 s.size, .agg #[.int .i64 s.size, .slice none 0 0], .string s, .func (.func 65) #[] #[.pointer (some ⟨w.heap.size + 1 + 1, 0, none⟩)], .string x.1, undef, undef, undef, undef, undef, undef, undef, undef], defers := [] } U := by
    intro U K2
    refine anyIn_step [0, 2] rS (by simp) ?_
    intro i hi
    simp only [List.mem_cons, List.mem_nil_iff, or_false] at hi
    rcases hi with rfl | rfl
    · refine opIn_of_list h0 ?_
      gi_wp2_with fail
      exact S0 U K2
    · refine opIn_of_list h2 ?_
      gi_wp2_with fail
      exact S2 U K2
  exact S _ K2
end Go.Proofs.YtoopaeahhbkncaaDoor
