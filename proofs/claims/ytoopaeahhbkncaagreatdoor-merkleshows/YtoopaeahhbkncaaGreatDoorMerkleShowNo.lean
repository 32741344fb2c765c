/- Contracts: no share of a text that is too long, none at a place that is none. -/
import Derived.Test.YtoopaeahhbkncaaGreatDoorMerkleFilesWalk
namespace Go.Proofs.YtoopaeahhbkncaaGreatDoor
open Go.RowKit Go.Shelf Go.Wire Go.Mk Go.Chunk
attribute [local go_sem] Oper.semAt_some
set_option maxHeartbeats 1000000 in
theorem show_many (s : ByteArray) (k : Int) (w : World) (hs : 8192 < s.size) :
    Calls Tryz.prog 6 #[.string s, .int .i64 k] w fun e w' => e = .returned (.tuple #[.agg #[.string ⟨#[]⟩, .int .i64 0, .int .i64 0, .int .i64 0, .string ⟨#[]⟩, .slice none 0 0], .int .i64 3]) ∧ Below w.heap.size w w' := by
  have HO := hide (fun (w' : World) => of_many s w' hs)
  go_enter Tryz.func6, Tryz.ntmps6
  go_upto_region 1 with fail
  have I := hide (Bx.new w #[.string ⟨#[]⟩, .int .i64 0, .int .i64 0, .int .i64 0, .string ⟨#[]⟩, .slice none 0 0] 27)
  generalize w.alloc (.cells #[.string ⟨#[]⟩, .int .i64 0, .int .i64 0, .int .i64 0, .string ⟨#[]⟩, .slice none 0 0] 27) = W0 at *
  go_wp2_with (first
    | (go_at_call 21; refine (HO.out _).mono ?_; rintro e w2 ⟨rfl, hb⟩; replace I := hide ((I.out.step hb).step ((Below.refl _ w2).alloc (Nat.le_refl _) (.cells #[.int .i64 0, .slice none 0 0] 48))); clear hb)
    | (refine wpList_store_row rfl 27 _ _ rfl _ _ rfl rfl 27 _ I.out.row infoShare rfl (by simp [Value.oneCell']) ?_))
  exact bodyPost_ret (results_cell2_row Tryz.results6 _ _ _ _ _ (0, 0) _ rfl (setRow_heap _ _ _ _ _ _ I.out.row) Tryz.underlying27 rfl infoShare) rfl ⟨rfl, below_setRow I.out.below (Nat.le_refl _) _⟩
set_option maxHeartbeats 1000000 in
theorem show_none (s : ByteArray) (k : Int) (w : World) (hs : s.size ≤ 8192) (hk : k < 0 ∨ ((texts s).length : Int) ≤ k) (hst : Steps w) :
    Calls Tryz.prog 6 #[.string s, .int .i64 k] w fun e w' => e = .returned (.tuple #[.agg #[.string ⟨#[]⟩, .int .i64 0, .int .i64 0, .int .i64 0, .string ⟨#[]⟩, .slice none 0 0], .int .i64 2]) ∧ Below w.heap.size w w' := by
  have HO := hide (fun (w' : World) (h : Below w.heap.size w w') => of_any s w' hs (hst.kept h))
  generalize (texts s).map (fun x => Value.string (digest x)) = ds at *
  generalize (texts s).length = n at *
  clear hst
  have hk2 : (k < 0) = True ∨ ((k < 0) = False ∧ (k < n) = False) := by
    by_cases h0 : k < 0
    · exact .inl (eq_true h0)
    · exact .inr ⟨eq_false h0, eq_false (by omega)⟩
  clear hk
  rcases hk2 with h0 | ⟨h0, h1⟩
  · have h0' : k < 0 := of_eq_true h0
    clear h0
    go_enter Tryz.func6, Tryz.ntmps6
    go_upto_region 1 with fail
    have I := hide (Bx.new w #[.string ⟨#[]⟩, .int .i64 0, .int .i64 0, .int .i64 0, .string ⟨#[]⟩, .slice none 0 0] 27)
    generalize w.alloc (.cells #[.string ⟨#[]⟩, .int .i64 0, .int .i64 0, .int .i64 0, .string ⟨#[]⟩, .slice none 0 0] 27) = W0 at *
    go_wp2_with (first
      | (go_at_call 21; refine (HO.out _ I.out.below).mono ?_; rintro e w2 ⟨v, rfl, hown, hb⟩; obtain ⟨va, vc, rfl⟩ := own_slice hown; replace I := hide ((I.out.step hb).step ((Below.refl _ w2).alloc (Nat.le_refl _) (.cells #[.int .i64 s.size, .slice va n vc] 48))); clear hb hown)
      | (refine wpList_store_row rfl 27 _ _ rfl _ _ rfl rfl 27 _ I.out.row infoShare rfl (by simp [Value.oneCell']) ?_))
    exact bodyPost_ret (results_cell2_row Tryz.results6 _ _ _ _ _ (0, 0) _ rfl (setRow_heap _ _ _ _ _ _ I.out.row) Tryz.underlying27 rfl infoShare) rfl ⟨rfl, below_setRow I.out.below (Nat.le_refl _) _⟩
  · have h0' : ¬ k < 0 := of_eq_false h0
    have h1' : ¬ k < n := of_eq_false h1
    clear h0 h1
    have h1'' : (n : Int) ≤ k := by omega
    go_enter Tryz.func6, Tryz.ntmps6
    go_upto_region 1 with fail
    have I := hide (Bx.new w #[.string ⟨#[]⟩, .int .i64 0, .int .i64 0, .int .i64 0, .string ⟨#[]⟩, .slice none 0 0] 27)
    generalize w.alloc (.cells #[.string ⟨#[]⟩, .int .i64 0, .int .i64 0, .int .i64 0, .string ⟨#[]⟩, .slice none 0 0] 27) = W0 at *
    go_wp2_with (first
      | (go_at_call 21; refine (HO.out _ I.out.below).mono ?_; rintro e w2 ⟨v, rfl, hown, hb⟩; obtain ⟨va, vc, rfl⟩ := own_slice hown; replace I := hide ((I.out.step hb).step ((Below.refl _ w2).alloc (Nat.le_refl _) (.cells #[.int .i64 s.size, .slice va n vc] 48))); clear hb hown
         have c1 : (w2.alloc (.cells #[.int .i64 s.size, .slice va n vc] 48)).cell? ⟨w2.heap.size, 1, none⟩ = some (.slice va n vc) := (by rw [cell_of_row _ _ _ _ _ _ (heap_alloc_new w2 _)]; rfl))
      | (refine wpList_store_row rfl 27 _ _ rfl _ _ rfl rfl 27 _ I.out.row infoShare rfl (by simp [Value.oneCell']) ?_))
    exact bodyPost_ret (results_cell2_row Tryz.results6 _ _ _ _ _ (0, 0) _ rfl (setRow_heap _ _ _ _ _ _ I.out.row) Tryz.underlying27 rfl infoShare) rfl ⟨rfl, below_setRow I.out.below (Nat.le_refl _) _⟩
end Go.Proofs.YtoopaeahhbkncaaGreatDoor
