/- Contracts of a writer's bytes and their number, of a new writer, and of a digest and yes or no as the document has them. -/
import Derived.Test.YtdcgemaaohldmaaWireWriter
import Derived.Shelf.RegionOpenPlain
import Derived.Lib.UnsafeStr
namespace Go.Wire
open Go.RowKit
theorem pad_more (l : List UInt8) (h : l.length < 32) : pad (l ++ [0]) = pad l := by
  unfold pad
  rw [List.take_of_length_le (by simp; omega), List.take_of_length_le (by omega), List.length_append, List.length_singleton, List.append_assoc]
  congr 1
  rw [show 32 - l.length = (32 - (l.length + 1)) + 1 by omega, List.replicate_succ]
  rfl
theorem pad_done (l : List UInt8) (h : 32 ≤ l.length) : pad l = l.take 32 := by
  unfold pad
  rw [show 32 - l.length = 0 by omega]
  simp
def sizeV : Value → Nat
  | .string t => t.size
  | _ => 0
theorem freeze_other (w : World) (a : Addr) (n k : Nat) (h : k ≠ a.block) : (w.freeze a n).heap[k]? = w.heap[k]? := by
  unfold World.freeze
  split
  · rfl
  · simp [Array.getElem?_modify, Ne.symm h]
end Go.Wire
namespace Go.Proofs.Ytdcgemaaohldmaa
open Go.RowKit Go.Wire
theorem underP5 : Try.prog.underlying 106 = some (.pointer 5) := by kernel_rfl
set_option maxHeartbeats 400000 in
theorem rhash_any (s : ByteArray) (w : World) (hs : s.size ≤ 1000000) :
    Calls Try.prog 29 #[.string s] w fun e w' => e = .returned (.string ⟨(pad s.data.toList).toArray⟩) ∧ w' = w := by
  go_enter Try.func29, Try.ntmps29
  go_wp2
  go_loop [0] (fun v => ∃ t : ByteArray, v = .string t ∧ t.size ≤ 1000000 ∧ Hid (pad t.data.toList = pad s.data.toList)) (fun v => 32 - sizeV v)
  case atStart => exact ⟨s, rfl, hs, rfl⟩
  case round =>
    obtain ⟨t, rfl, ht, hp⟩ := hrel
    have htl : t.data.toList.length = t.size := by simp
    by_cases hlt : t.size < 32
    · have HP : Hid (pad (t ++ (⟨#[0]⟩ : ByteArray)).data.toList = pad s.data.toList ∧ (t ++ (⟨#[0]⟩ : ByteArray)).size = t.size + 1) := by
        refine ⟨?_, by rw [ByteArray.size_append]; rfl⟩
        have e : (t ++ (⟨#[0]⟩ : ByteArray)).data.toList = t.data.toList ++ [0] := by simp
        rw [e, pad_more _ (by omega)]; exact hp.out
      clear htl
      go_wp2
      go_round
      case rel => exact ⟨t ++ (⟨#[0]⟩ : ByteArray), rfl, by rw [HP.out.2]; omega, HP.out.1⟩
      case measure =>
        show 32 - (t ++ (⟨#[0]⟩ : ByteArray)).size < 32 - t.size
        rw [HP.out.2]; omega
    · have HP : Hid (t.extract 0 32 = ⟨(pad s.data.toList).toArray⟩) := by
        rw [Hid, ← hp.out, pad_done _ (by omega)]
        apply ByteArray.ext
        apply Array.toList_inj.1
        rw [ByteArray.data_extract, Array.toList_extract]
        simp [List.extract]
      clear htl
      go_wp2
      go_ret
      rw [← HP.out]
      exact ⟨rfl, rfl⟩
set_option maxHeartbeats 400000 in
theorem rboolB_any (x : Bool) (w : World) :
    Calls Try.prog 28 #[.bool x] w fun e w' => e = .returned (.string ⟨#[if x then 121 else 110]⟩) ∧ w' = w := by
  cases x
  · go_enter Try.func28, Try.ntmps28
    go_wp2
    go_ret
    exact ⟨rfl, rfl⟩
  · go_enter Try.func28, Try.ntmps28
    go_wp2
    go_ret
    exact ⟨rfl, rfl⟩
set_option maxHeartbeats 400000 in
theorem newWriter_any (w : World) :
    Calls Try.prog 56 #[] w fun e w' => e = .returned (.pointer (some ⟨w.heap.size, 0, none⟩)) ∧ Wr 99 w.heap.size w.heap.size [] w' ∧ Below w.heap.size w w' := by
  go_enter Try.func56, Try.ntmps56
  go_wp2
  go_ret
  exact ⟨rfl, Wr.fresh _ _, (Below.refl _ _).alloc (Nat.le_refl _) _⟩
set_option maxHeartbeats 2000000 in
set_option maxRecDepth 100000 in
theorem bstring_row (B b g cap : Nat) (p : Value) (cur : Array Value) (l : List UInt8) (w : World) (h0 : l ≠ []) (hbg : B ≤ g) (hgb : g ≠ b) (hbk : w.heap[b]? = some (.cells #[p, .slice (some ⟨g, 0, none⟩) l.length cap] 99 (0, 0)))
    (hg : w.heap[g]? = some (.cells cur 5 (0, 0))) (hnc : l.length ≤ cap) (hcm : cap ≤ maxLen) (hcs : cur.size = cap * 1) (htake : cur.toList.take (l.length * 1) = Lib.byteCells l) :
    Calls Try.prog 66 #[.pointer (some ⟨b, 0, none⟩)] w fun e w' => e = .returned (.string ⟨l.toArray⟩) ∧ w'.heap[b]? = some (.cells #[p, .slice (some ⟨g, 0, none⟩) l.length cap] 99 (0, 0)) ∧ Below B w w' := by
  have hl0 : l.length ≠ 0 := by simpa using h0
  have c1 : w.drew.cell? ⟨b, 1, none⟩ = some (.slice (some ⟨g, 0, none⟩) l.length cap) := by
    have : w.drew.heap[b]? = some (.cells #[p, .slice (some ⟨g, 0, none⟩) l.length cap] 99 (0, 0)) := hbk
    rw [Lib.cell_of_heap this]; rfl
  have hSD : (Builtin.unsafeSliceData_ #[42] 106 #[.slice (some ⟨g, 0, none⟩) l.length cap]).run Try.prog w.drew = .ok (.pointer (some ⟨g, 0, none⟩)) w.drew :=
    Lib.run_unsafeSliceData_row _ _ _ _ _ _ (by omega)
  have hUS : (Builtin.unsafeString_ #[106, 3] 9 #[.pointer (some ⟨g, 0, none⟩), .int .i64 l.length]).run Try.prog w.drew = .ok (.string ⟨l.toArray⟩) (w.drew.freeze ⟨g, 0, none⟩ l.length) := by
    refine Lib.run_unsafeString_row w.drew 106 3 9 5 underP5 cells5 g cur.size (by have hg' : w.drew.heap[g]? = some (.cells cur 5 (0, 0)) := hg; simp [World.shape?, hg']) l h0 (by omega) (by unfold maxLen at hcm; omega) ?_
    intro j x hx
    have hj : j < l.length := (List.getElem?_eq_some_iff.1 hx).1
    have hg' : w.drew.heap[g]? = some (.cells cur 5 (0, 0)) := hg
    rw [show (⟨g, 0, none⟩ : Addr).add j = ⟨g, j, none⟩ by unfold Addr.add; split <;> simp_all, Lib.cell_of_heap hg', ← Array.getElem?_toList]
    have h1 : (cur.toList.take (l.length * 1))[j]? = some (.int .u8 x.toNat) := by rw [htake]; simp [Lib.byteCells, hx]
    rwa [List.getElem?_take_of_lt (by omega)] at h1
  have HB : Hid ((w.drew.freeze ⟨g, 0, none⟩ l.length).heap[b]? = some (.cells #[p, .slice (some ⟨g, 0, none⟩) l.length cap] 99 (0, 0))) := (freeze_other _ ⟨g, 0, none⟩ _ b (fun e => hgb e.symm)).trans hbk
  have mixed : Try.prog.follows Departure.mixedOrders = true := by kernel_rfl
  go_enter Try.func66, Try.ntmps66
  go_wp2
  go_region_o
  all_goals (go_wp2; go_ret; exact ⟨rfl, HB.out, Lib.below_freeze (Below.drew (Below.refl B w)) (p := ⟨g, 0, none⟩) hbg _⟩)
set_option maxHeartbeats 2000000 in
set_option maxRecDepth 100000 in
theorem bstring_nil (b : Nat) (p : Value) (w : World) (hbk : w.heap[b]? = some (.cells #[p, .slice none 0 0] 99 (0, 0))) :
    Calls Try.prog 66 #[.pointer (some ⟨b, 0, none⟩)] w fun e w' => e = .returned (.string ⟨#[]⟩) ∧ w'.heap[b]? = w.heap[b]? ∧ Below w.heap.size w w' := by
  have hUS : ∀ (W : World) (q : Option Addr), (Builtin.unsafeString_ #[106, 3] 9 #[.pointer q, .int .i64 0]).run Try.prog W = .ok (.string .empty) W := fun W q => Lib.run_unsafeString_none W _ _ _ q
  have c1 : w.drew.cell? ⟨b, 1, none⟩ = some (.slice none 0 0) := by
    have : w.drew.heap[b]? = some (.cells #[p, .slice none 0 0] 99 (0, 0)) := hbk
    rw [Lib.cell_of_heap this]; rfl
  have hSD : (Builtin.unsafeSliceData_ #[42] 106 #[.slice none 0 0]).run Try.prog w.drew = .ok (.pointer none) w.drew := rfl
  have mixed : Try.prog.follows Departure.mixedOrders = true := by kernel_rfl
  go_enter Try.func66, Try.ntmps66
  go_wp2
  go_region_o
  all_goals (go_wp2; go_ret; exact ⟨rfl, rfl, Below.drew (Below.refl _ w)⟩)
set_option maxHeartbeats 400000 in
theorem all_any (B b : Nat) (l : List UInt8) (w : World) (hB : B ≤ w.heap.size) (h : Wr 99 B b l w) :
    Calls Try.prog 58 #[.pointer (some ⟨b, 0, none⟩)] w fun e w' => e = .returned (.string ⟨l.toArray⟩) ∧ (∃ p ao cap, w'.heap[b]? = some (.cells #[p, .slice ao l.length cap] 99 (0, 0))) ∧ Below B w w' := by
  have HS : Hid (Calls Try.prog 66 #[.pointer (some ⟨b, 0, none⟩)] w fun e w' => e = .returned (.string ⟨l.toArray⟩) ∧ (∃ p ao cap, w'.heap[b]? = some (.cells #[p, .slice ao l.length cap] 99 (0, 0))) ∧ Below B w w') := by
    obtain ⟨hBb, p, v, hp, hb, ho, hn, he⟩ := h
    by_cases h0 : l = []
    · have hv := he h0
      subst hv
      subst h0
      refine (bstring_nil b p w hb).mono fun e w' ⟨h1, h2, h3⟩ => ⟨h1, ⟨p, none, 0, by rw [h2]; exact hb⟩, h3.mono hB⟩
    · have hl0 : l.length ≠ 0 := by simpa using h0
      rcases ho.2 with ⟨_, hz⟩ | ⟨g, cap, cur, hv, hbg, hg, hnc, hcm, hcs, htake⟩
      · exact absurd hz hl0
      · subst hv
        have hgb : g ≠ b := fun e => hn (by rw [e]; rfl)
        exact (bstring_row B b g cap p cur l w h0 hbg hgb hb hg hnc hcm hcs htake).mono fun e w' ⟨h1, h2, h3⟩ => ⟨h1, ⟨p, _, cap, h2⟩, h3⟩
  go_enter Try.func58, Try.ntmps58
  go_wp2_with (go_at_call 66; refine HS.out.mono ?_; rintro e w1 ⟨rfl, h1, k1⟩)
  go_ret
  exact ⟨rfl, by assumption, by assumption⟩
end Go.Proofs.Ytdcgemaaohldmaa
