/- Contract: the wake-up call. -/
import Derived.Test.YtoopaeahhbkncaaDoorMerkleShow
import Derived.Test.YtoopaeahhbkncaaDoorMerkleVerify
import Derived.Test.YtoopaeahhbkncaaDoorMerkleAwakeMath
namespace Go.Chunk
theorem texts_short (s : ByteArray) (h1 : s.size ≠ 0) (h2 : s.size ≤ 32) : texts s = [s] := by
  rw [texts_step s h1]
  have hc : cut s.data.toList = s.size := by rw [cut_short _ (by simpa using h2)]; simp
  rw [hc, texts_nil _ (by simp)]
  congr 1
  have := txt_take s s.size
  rw [← this, List.take_of_length_le (by simp), txt_data]
end Go.Chunk
namespace Go.Proofs.YtoopaeahhbkncaaDoor
open Go.RowKit Go.Shelf Go.Wire Go.Mk Go.Chunk
attribute [local go_sem] Oper.semAt_some
/-- The share of the wake-up call. -/
def shA : Sh := ⟨named 4 1 (digest textB), 4, 1, 0, textB, []⟩
def shB : Sh := ⟨named 4 1 (digest textB), 4, 1, 0, testB, []⟩
theorem shA_ok : shA.verdict = 0 := by
  unfold Sh.verdict
  have hC : shA.Claims := by unfold Sh.Claims shA; decide
  have hP : shA.Proves := by
    refine ⟨?_, (fun h hh => (by cases hh)), ?_⟩
    · show 0 = way 0 1; rw [way_one 0 1 (by omega)]
    · show named 4 1 (climb (digest textB) 0 1 []) = named 4 1 (digest textB)
      rw [climb_one _ 0 1 [] (by omega)]
  rw [if_pos hC, if_pos hP]
theorem shB_no : shB.verdict = 90 := by
  unfold Sh.verdict
  have hC : shB.Claims := by unfold Sh.Claims shB; decide
  have hP : ¬ shB.Proves := fun h => by
    have h3 : named 4 1 (climb (digest testB) 0 1 []) = named 4 1 (digest textB) := h.2.2
    rw [climb_one _ 0 1 [] (by omega)] at h3
    exact named_ne h3
  rw [if_pos hC, if_neg hP]
set_option maxHeartbeats 1000000 in
set_option maxRecDepth 100000 in
theorem awake9_any (w : World) (hst : Steps w) :
    Calls Tryd.prog 10 #[] w fun e w' => e = .returned (.bool true) ∧ Below w.heap.size w w' := by
  have ht : texts textB = [textB] := texts_short textB (by decide) (by decide)
  have hsh := show_any textB 0 textB w (by decide) (by rw [ht]; decide) (by rw [ht]; rfl) hst
  rw [ht] at hsh
  simp only [List.map_cons, List.map_nil, List.length_cons, List.length_nil, Nat.zero_add] at hsh
  rw [root_one, path_few _ 0 (by simp), show textB.size = 4 from rfl] at hsh
  have HS := hide hsh
  have HA := hide (fun (pv : Value) (w' : World) (h : Below w.heap.size w w') (hr : StrRow.Reads w' pv []) => verify_any shA pv w' hr (hst.kept h))
  have HB := hide (fun (pv : Value) (w' : World) (h : Below w.heap.size w w') (hr : StrRow.Reads w' pv []) => verify_any shB pv w' hr (hst.kept h))
  rw [shA_ok] at HA
  rw [shB_no] at HB
  unfold shA at HA
  unfold shB at HB
  dsimp only [Sh.v] at HA HB HS
  clear hsh hst ht
  generalize named 4 1 (digest textB) = DG at *
  unfold textB at HA HS
  unfold testB at HB
  go_enter Tryd.func10, Tryd.ntmps10
  go_upto_region 5 with (first
    | (go_at_call 38; refine HS.out.mono ?_; rintro e w1 ⟨pv, rfl, hr, hb⟩; obtain ⟨pa, pc, rfl⟩ := hr.form; have HR := hide hb; clear hr hb)
    | (go_at_call 24; refine (HA.out (.slice pa 0 pc) _ (HR.out.alloc HR.out.size _) (.inl ⟨⟨_, _, rfl⟩, rfl⟩)).mono ?_; rintro e w2 ⟨rfl, hb2⟩
       have I := hide (show Bx w w1.heap.size _ _ w2 from Bx.step ⟨heap_alloc_new w1 (.cells #[.string DG, .int .i64 4, .int .i64 1, .int .i64 0, .string ⟨#[116, 101, 120, 116]⟩, .slice pa 0 pc] 45), HR.out.alloc HR.out.size _⟩ hb2)
       obtain ⟨c0, c1, c2, c3, c4, c5⟩ := cells6 I.out.row
       have f4 := frozen_of_row _ _ 4 _ _ I.out.row
       clear hb2))
  have hr2 : (w2.setCell ⟨w1.heap.size, 4, none⟩ (.string ⟨#[116, 101, 115, 116]⟩)).heap[w1.heap.size]? = some (.cells #[.string DG, .int .i64 4, .int .i64 1, .int .i64 0, .string ⟨#[116, 101, 115, 116]⟩, .slice pa 0 pc] 45 (0, 0)) := by rw [heap_setCell_same _ _ _ _ _ _ I.out.row]; rfl
  have hb2 := I.out.below.setCell (p := ⟨w1.heap.size, 4, none⟩) HR.out.size (.string ⟨#[116, 101, 115, 116]⟩)
  have I2 := hide (show Bx w w1.heap.size _ _ _ from ⟨hr2, hb2⟩)
  clear hr2 hb2 c0 c1 c2 c3 c4 c5 f4 HA HS
  generalize w2.setCell ⟨w1.heap.size, 4, none⟩ (.string ⟨#[116, 101, 115, 116]⟩) = w3 at *
  go_wp2_with (first
    | (refine wpList_load_row rfl 45 _ rfl _ rfl _ _ _ _ I2.out.row Tryd.underlying45 rfl infoShare ?_)
    | (go_at_call 24; refine (HB.out (.slice pa 0 pc) _ I2.out.below (.inl ⟨⟨_, _, rfl⟩, rfl⟩)).mono ?_; rintro e w4 ⟨rfl, hb4⟩))
  go_ret
  exact ⟨rfl, I2.out.below.trans (hb4.mono I2.out.below.size)⟩
end Go.Proofs.YtoopaeahhbkncaaDoor
