/- The walk of MerkleVerifies. -/
import Derived.Test.YtoopaeahhbkncabDoorMerkleAwake
import Derived.Test.YtoopaeahhbkncabDoorMerkleRefVerify
namespace Go.Mk
open Go.RowKit
/-- A share whose digests beside the way are cut. -/
def Sh.few (x : Sh) : Sh := ⟨x.dg, x.sz, x.mn, x.at_, x.ck, x.pa.take 21⟩
theorem Sh.few_verdict (x : Sh) : x.few.verdict = x.verdict := by
  by_cases hl : x.pa.length ≤ 21
  · have : x.few = x := by unfold Sh.few; rw [List.take_of_length_le hl]
    rw [this]
  · unfold Sh.verdict
    by_cases hC : x.Claims
    · have hC' : x.few.Claims := hC
      have h8 := way_eight x.at_.toNat x.mn.toNat (by have := hC.1; omega) (by have := hC.2.1; omega)
      have n1 : ¬ x.Proves := fun hp => by have := hp.1; omega
      have n2 : ¬ x.few.Proves := fun hp => by
        have h1 : (x.pa.take 21).length = way x.at_.toNat x.mn.toNat := hp.1
        rw [List.length_take] at h1; omega
      rw [if_pos hC, if_neg n1, if_pos hC', if_neg n2]
    · have hC' : ¬ x.few.Claims := hC
      rw [if_neg hC, if_neg hC']
end Go.Mk
namespace Go.Proofs.YtoopaeahhbkncabDoor
open Go.RowKit Go.Wire Go.Mk Go.Chunk
attribute [local go_sem] Oper.semAt_some
theorem reads_few {w : World} {a : Option Addr} {c : Nat} {xs : List ByteArray} (h : StrRow.Reads w (.slice a xs.length c) xs) : StrRow.Reads w (.slice a (min xs.length 21) c) (xs.take 21) := by
  rcases h with ⟨⟨a', cap, h⟩, rfl⟩ | ⟨b, off, cap, h1, h2, h3, h4⟩
  · exact .inl ⟨⟨_, _, rfl⟩, rfl⟩
  · cases h1
    have hl : (xs.take 21).length = min xs.length 21 := by rw [List.length_take]; omega
    refine .inr ⟨b, off, c, by rw [hl], h2, by omega, fun j s hj => ?_⟩
    have hjk : j < min xs.length 21 := by rw [← hl]; exact (List.getElem?_eq_some_iff.1 hj).1
    rw [List.getElem?_take_of_lt (by omega)] at hj
    exact h4 j s hj
theorem ref9_any (x : Sh) (a : Option Addr) (c : Nat) (w : World) (hr : StrRow.Reads w (.slice a x.pa.length c) x.pa) (hm : x.pa.length ≤ maxLen) :
    Calls Tryd.prog 11 #[x.v (.slice a x.pa.length c)] w fun e w' => e = .returned (x.few.v (.slice a (min x.pa.length 21) c)) ∧ Below w.heap.size w w' := by
  obtain ⟨dg, sz, mn, at_, ck, pa⟩ := x
  dsimp only [Sh.v, Sh.few] at hr hm ⊢
  have hcap : pa.length ≤ c := by
    rcases hr with ⟨⟨_, _, _⟩, rfl⟩ | ⟨_, _, _, h1, _, h3, _⟩
    · exact Nat.zero_le _
    · cases h1; exact h3
  have ha : 21 < pa.length → ∃ b off, a = some ⟨b, off, none⟩ := fun hl => by
    rcases hr with ⟨⟨_, _, _⟩, rfl⟩ | ⟨b, off, _, h1, _, _, _⟩
    · simp at hl
    · cases h1; exact ⟨b, off, rfl⟩
  have hb0 : Below w.heap.size w ((w.alloc (.cells #[.string dg, .int .i64 sz, .int .i64 mn, .int .i64 at_, .string ck, .slice a pa.length c] 27)).alloc (.cells #[.string ⟨#[]⟩, .int .i64 0, .int .i64 0, .int .i64 0, .string ⟨#[]⟩, .slice none 0 0] 34)) := ((Below.refl _ w).alloc (Nat.le_refl _) _).alloc (by simp) _
  have hrow : ((w.alloc (.cells #[.string dg, .int .i64 sz, .int .i64 mn, .int .i64 at_, .string ck, .slice a pa.length c] 27)).alloc (.cells #[.string ⟨#[]⟩, .int .i64 0, .int .i64 0, .int .i64 0, .string ⟨#[]⟩, .slice none 0 0] 34)).heap[w.heap.size + 1]? = some (.cells #[.string ⟨#[]⟩, .int .i64 0, .int .i64 0, .int .i64 0, .string ⟨#[]⟩, .slice none 0 0] 34 (0, 0)) := by
    have := heap_alloc_new (w.alloc (.cells #[.string dg, .int .i64 sz, .int .i64 mn, .int .i64 at_, .string ck, .slice a pa.length c] 27)) (.cells #[.string ⟨#[]⟩, .int .i64 0, .int .i64 0, .int .i64 0, .string ⟨#[]⟩, .slice none 0 0] 34)
    rwa [World.size_alloc] at this
  have HB := hide (And.intro hb0 hrow)
  clear hb0 hrow hr
  by_cases hl : 21 < pa.length
  · obtain ⟨b, off, rfl⟩ := ha hl
    rw [show min pa.length 21 = 21 by omega]
    have hl2 : (21 : Int) < pa.length := by omega
    have hc2 : (21 : Int) ≤ c := by omega
    clear ha
    go_enter Tryd.func11, Tryd.ntmps11
    go_wp2_with (refine wpList_store_row rfl 34 _ _ rfl _ _ rfl rfl 34 _ HB.out.2 infoRShare rfl (by simp [Value.oneCell']) ?_)
    exact bodyPost_ret (results_cell_row Tryd.results11 _ _ _ _ _ (0, 0) _ rfl (setRow_heap _ _ _ _ _ _ HB.out.2) Tryd.underlying34 rfl infoRShare) rfl ⟨rfl, below_setRow HB.out.1 (by simp) _⟩
  · rw [show min pa.length 21 = pa.length by omega]
    have hl2 : ¬ ((21 : Int) < pa.length) := by omega
    clear ha
    go_enter Tryd.func11, Tryd.ntmps11
    go_wp2_with (refine wpList_store_row rfl 34 _ _ rfl _ _ rfl rfl 34 _ HB.out.2 infoRShare rfl (by simp [Value.oneCell']) ?_)
    exact bodyPost_ret (results_cell_row Tryd.results11 _ _ _ _ _ (0, 0) _ rfl (setRow_heap _ _ _ _ _ _ HB.out.2) Tryd.underlying34 rfl infoRShare) rfl ⟨rfl, below_setRow HB.out.1 (by simp) _⟩
end Go.Proofs.YtoopaeahhbkncabDoor
