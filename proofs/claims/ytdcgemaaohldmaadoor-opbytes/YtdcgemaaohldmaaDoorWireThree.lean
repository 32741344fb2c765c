/- Several texts in one: WireAll, WireTakes, WireSpare, WireTold, WireFrames. -/
import Derived.Test.YtdcgemaaohldmaaDoorWireTwo
import Derived.Shelf.RegionOpenPlain
import Derived.Lib.UnsafeStr
import Derived.Test.YtdcgemaaohldmaaDoorWireOne
/- Contracts of a writer's bytes and their number, of a new writer, and of a digest and yes or no as the document has them. -/
namespace Go.Wire
open Go.RowKit
theorem pad_more (l : List UInt8) (h : l.length < 32) : pad (l ++ [0]) = pad l := by
  unfold pad
  rw [List.take_of_length_le (by simp; omega), List.take_of_length_le (by omega), List.length_append, List.length_singleton, List.append_assoc]
  congr 1
  rw [show 32 - l.length = (32 - (l.length + 1)) + 1 by omega, List.replicate_succ]
  rfl
theorem pad_done (l : List UInt8) (h : 32 ≤ l.length) : pad l = l.take 32 := by
  unfold pad
  rw [show 32 - l.length = 0 by omega]
  simp
def sizeV : Value → Nat
  | .string t => t.size
  | _ => 0
theorem freeze_other (w : World) (a : Addr) (n k : Nat) (h : k ≠ a.block) : (w.freeze a n).heap[k]? = w.heap[k]? := by
  unfold World.freeze
  split
  · rfl
  · simp [Array.getElem?_modify, Ne.symm h]
end Go.Wire
namespace Go.Proofs.YtdcgemaaohldmaaDoor
open Go.RowKit Go.Wire
theorem underP5 : Tryd.prog.underlying 91 = some (.pointer 5) := by kernel_rfl
set_option maxHeartbeats 400000 in
theorem rhash_any (s : ByteArray) (w : World) (hs : s.size ≤ 1000000) :
    Calls Tryd.prog 49 #[.string s] w fun e w' => e = .returned (.string ⟨(pad s.data.toList).toArray⟩) ∧ w' = w := by
  go_enter Tryd.func49, Tryd.ntmps49
  go_wp2
  go_loop [0] (fun v => ∃ t : ByteArray, v = .string t ∧ t.size ≤ 1000000 ∧ Hid (pad t.data.toList = pad s.data.toList)) (fun v => 32 - sizeV v)
  case atStart => exact ⟨s, rfl, hs, rfl⟩
  case round =>
    obtain ⟨t, rfl, ht, hp⟩ := hrel
    have htl : t.data.toList.length = t.size := by simp
    by_cases hlt : t.size < 32
    · have HP : Hid (pad (t ++ (⟨#[0]⟩ : ByteArray)).data.toList = pad s.data.toList ∧ (t ++ (⟨#[0]⟩ : ByteArray)).size = t.size + 1) := by
        refine ⟨?_, by rw [ByteArray.size_append]; rfl⟩
        have e : (t ++ (⟨#[0]⟩ : ByteArray)).data.toList = t.data.toList ++ [0] := by simp
        rw [e, pad_more _ (by omega)]; exact hp.out
      clear htl
      go_wp2
      go_round
      case rel => exact ⟨t ++ (⟨#[0]⟩ : ByteArray), rfl, by rw [HP.out.2]; omega, HP.out.1⟩
      case measure =>
        show 32 - (t ++ (⟨#[0]⟩ : ByteArray)).size < 32 - t.size
        rw [HP.out.2]; omega
    · have HP : Hid (t.extract 0 32 = ⟨(pad s.data.toList).toArray⟩) := by
        rw [Hid, ← hp.out, pad_done _ (by omega)]
        apply ByteArray.ext
        apply Array.toList_inj.1
        rw [ByteArray.data_extract, Array.toList_extract]
        simp [List.extract]
      clear htl
      go_wp2
      go_ret
      rw [← HP.out]
      exact ⟨rfl, rfl⟩
set_option maxHeartbeats 400000 in
theorem rboolB_any (x : Bool) (w : World) :
    Calls Tryd.prog 48 #[.bool x] w fun e w' => e = .returned (.string ⟨#[if x then 121 else 110]⟩) ∧ w' = w := by
  cases x
  · go_enter Tryd.func48, Tryd.ntmps48
    go_wp2
    go_ret
    exact ⟨rfl, rfl⟩
  · go_enter Tryd.func48, Tryd.ntmps48
    go_wp2
    go_ret
    exact ⟨rfl, rfl⟩
set_option maxHeartbeats 400000 in
theorem newWriter_any (w : World) :
    Calls Tryd.prog 11 #[] w fun e w' => e = .returned (.pointer (some ⟨w.heap.size, 0, none⟩)) ∧ Wr 64 w.heap.size w.heap.size [] w' ∧ Below w.heap.size w w' := by
  go_enter Tryd.func11, Tryd.ntmps11
  go_wp2
  go_ret
  exact ⟨rfl, Wr.fresh _ _, (Below.refl _ _).alloc (Nat.le_refl _) _⟩
set_option maxHeartbeats 2000000 in
set_option maxRecDepth 100000 in
theorem bstring_row (B b g cap : Nat) (p : Value) (cur : Array Value) (l : List UInt8) (w : World) (h0 : l ≠ []) (hbg : B ≤ g) (hgb : g ≠ b) (hbk : w.heap[b]? = some (.cells #[p, .slice (some ⟨g, 0, none⟩) l.length cap] 64 (0, 0)))
    (hg : w.heap[g]? = some (.cells cur 5 (0, 0))) (hnc : l.length ≤ cap) (hcm : cap ≤ maxLen) (hcs : cur.size = cap * 1) (htake : cur.toList.take (l.length * 1) = Lib.byteCells l) :
    Calls Tryd.prog 50 #[.pointer (some ⟨b, 0, none⟩)] w fun e w' => e = .returned (.string ⟨l.toArray⟩) ∧ w'.heap[b]? = some (.cells #[p, .slice (some ⟨g, 0, none⟩) l.length cap] 64 (0, 0)) ∧ Below B w w' := by
  have hl0 : l.length ≠ 0 := by simpa using h0
  have c1 : w.drew.cell? ⟨b, 1, none⟩ = some (.slice (some ⟨g, 0, none⟩) l.length cap) := by
    have : w.drew.heap[b]? = some (.cells #[p, .slice (some ⟨g, 0, none⟩) l.length cap] 64 (0, 0)) := hbk
    rw [Lib.cell_of_heap this]; rfl
  have hSD : (Builtin.unsafeSliceData_ #[60] 91 #[.slice (some ⟨g, 0, none⟩) l.length cap]).run Tryd.prog w.drew = .ok (.pointer (some ⟨g, 0, none⟩)) w.drew :=
    Lib.run_unsafeSliceData_row _ _ _ _ _ _ (by omega)
  have hUS : (Builtin.unsafeString_ #[91, 3] 9 #[.pointer (some ⟨g, 0, none⟩), .int .i64 l.length]).run Tryd.prog w.drew = .ok (.string ⟨l.toArray⟩) (w.drew.freeze ⟨g, 0, none⟩ l.length) := by
    refine Lib.run_unsafeString_row w.drew 91 3 9 5 underP5 cells5 g cur.size (by have hg' : w.drew.heap[g]? = some (.cells cur 5 (0, 0)) := hg; simp [World.shape?, hg']) l h0 (by omega) (by unfold maxLen at hcm; omega) ?_
    intro j x hx
    have hj : j < l.length := (List.getElem?_eq_some_iff.1 hx).1
    have hg' : w.drew.heap[g]? = some (.cells cur 5 (0, 0)) := hg
    rw [show (⟨g, 0, none⟩ : Addr).add j = ⟨g, j, none⟩ by unfold Addr.add; split <;> simp_all, Lib.cell_of_heap hg', ← Array.getElem?_toList]
    have h1 : (cur.toList.take (l.length * 1))[j]? = some (.int .u8 x.toNat) := by rw [htake]; simp [Lib.byteCells, hx]
    rwa [List.getElem?_take_of_lt (by omega)] at h1
  have HB : Hid ((w.drew.freeze ⟨g, 0, none⟩ l.length).heap[b]? = some (.cells #[p, .slice (some ⟨g, 0, none⟩) l.length cap] 64 (0, 0))) := (freeze_other _ ⟨g, 0, none⟩ _ b (fun e => hgb e.symm)).trans hbk
  have mixed : Tryd.prog.follows Departure.mixedOrders = true := by kernel_rfl
  go_enter Tryd.func50, Tryd.ntmps50
  go_wp2
  go_region_o
  all_goals (go_wp2; go_ret; exact ⟨rfl, HB.out, Lib.below_freeze (Below.drew (Below.refl B w)) (p := ⟨g, 0, none⟩) hbg _⟩)
set_option maxHeartbeats 2000000 in
set_option maxRecDepth 100000 in
theorem bstring_nil (b : Nat) (p : Value) (w : World) (hbk : w.heap[b]? = some (.cells #[p, .slice none 0 0] 64 (0, 0))) :
    Calls Tryd.prog 50 #[.pointer (some ⟨b, 0, none⟩)] w fun e w' => e = .returned (.string ⟨#[]⟩) ∧ w'.heap[b]? = w.heap[b]? ∧ Below w.heap.size w w' := by
  have hUS : ∀ (W : World) (q : Option Addr), (Builtin.unsafeString_ #[91, 3] 9 #[.pointer q, .int .i64 0]).run Tryd.prog W = .ok (.string .empty) W := fun W q => Lib.run_unsafeString_none W _ _ _ q
  have c1 : w.drew.cell? ⟨b, 1, none⟩ = some (.slice none 0 0) := by
    have : w.drew.heap[b]? = some (.cells #[p, .slice none 0 0] 64 (0, 0)) := hbk
    rw [Lib.cell_of_heap this]; rfl
  have hSD : (Builtin.unsafeSliceData_ #[60] 91 #[.slice none 0 0]).run Tryd.prog w.drew = .ok (.pointer none) w.drew := rfl
  have mixed : Tryd.prog.follows Departure.mixedOrders = true := by kernel_rfl
  go_enter Tryd.func50, Tryd.ntmps50
  go_wp2
  go_region_o
  all_goals (go_wp2; go_ret; exact ⟨rfl, rfl, Below.drew (Below.refl _ w)⟩)
set_option maxHeartbeats 400000 in
theorem all_any (B b : Nat) (l : List UInt8) (w : World) (hB : B ≤ w.heap.size) (h : Wr 64 B b l w) :
    Calls Tryd.prog 16 #[.pointer (some ⟨b, 0, none⟩)] w fun e w' => e = .returned (.string ⟨l.toArray⟩) ∧ (∃ p ao cap, w'.heap[b]? = some (.cells #[p, .slice ao l.length cap] 64 (0, 0))) ∧ Below B w w' := by
  have HS : Hid (Calls Tryd.prog 50 #[.pointer (some ⟨b, 0, none⟩)] w fun e w' => e = .returned (.string ⟨l.toArray⟩) ∧ (∃ p ao cap, w'.heap[b]? = some (.cells #[p, .slice ao l.length cap] 64 (0, 0))) ∧ Below B w w') := by
    obtain ⟨hBb, p, v, hp, hb, ho, hn, he⟩ := h
    by_cases h0 : l = []
    · have hv := he h0
      subst hv
      subst h0
      refine (bstring_nil b p w hb).mono fun e w' ⟨h1, h2, h3⟩ => ⟨h1, ⟨p, none, 0, by rw [h2]; exact hb⟩, h3.mono hB⟩
    · have hl0 : l.length ≠ 0 := by simpa using h0
      rcases ho.2 with ⟨_, hz⟩ | ⟨g, cap, cur, hv, hbg, hg, hnc, hcm, hcs, htake⟩
      · exact absurd hz hl0
      · subst hv
        have hgb : g ≠ b := fun e => hn (by rw [e]; rfl)
        exact (bstring_row B b g cap p cur l w h0 hbg hgb hb hg hnc hcm hcs htake).mono fun e w' ⟨h1, h2, h3⟩ => ⟨h1, ⟨p, _, cap, h2⟩, h3⟩
  go_enter Tryd.func16, Tryd.ntmps16
  go_wp2_with (go_at_call 50; refine HS.out.mono ?_; rintro e w1 ⟨rfl, h1, k1⟩)
  go_ret
  exact ⟨rfl, by assumption, by assumption⟩
end Go.Proofs.YtdcgemaaohldmaaDoor
/- Contracts of the program's reader: counts, texts, digests, yes and no, the end. -/
namespace Go.Proofs.YtdcgemaaohldmaaDoor
open Go.RowKit Go.Wire
set_option maxHeartbeats 1000000 in
theorem count_any (b : Nat) (q : St) (most : Int) (w : World) (h : Rd 71 b q w) (hq : q.pos ≤ q.s.size) (hs : q.s.size ≤ maxLen) (hm1 : most ≤ 9223372036854775807) :
    Calls Tryd.prog 42 #[.pointer (some ⟨b, 0, none⟩), .int .i64 most] w fun e w' => e = .returned (.int .i64 ((q.count most).2 : Nat)) ∧ Rd 71 b (q.count most).1 w' ∧ Kept b w w' := by
  have hlt : (q.number 4).2 < 4294967296 := q.number_lt 4 (by decide)
  have hps := q.number_le 4 hq
  have hpq := q.number_s 4
  have HN : ∀ {w : World}, Rd 71 b q w → Hid (Calls Tryd.prog 37 #[.pointer (some ⟨b, 0, none⟩), .int .i64 4] w fun e w' => e = .returned (.int .u64 ((q.number 4).2 : Nat)) ∧ Rd 71 b (q.number 4).1 w' ∧ Kept b w w') := fun h => readerNumber_any b q 4 _ h hq hs
  by_cases hm : most < 0
  · rw [St.count_no q most (.inl hm)]
    generalize (q.number 4).2 = n at hlt HN
    generalize (q.number 4).1 = p at hps hpq HN
    go_enter Tryd.func42, Tryd.ntmps42
    go_wp2_with (first
      | (go_at_call 60; refine (at_any b q _ h).mono ?_; rintro e w' ⟨rfl, rfl⟩)
      | (go_at_call 37; refine (HN h).out.mono ?_; rintro e w1 ⟨rfl, h1, k1⟩)
      | (go_at_call 63; refine (give_any b q.pos p 3 _ (by assumption)).mono ?_; rintro e w2 ⟨rfl, h2, k2⟩))
    go_ret
    exact ⟨rfl, by assumption, Kept.trans (by assumption) (by assumption)⟩
  · by_cases hn : most < (q.number 4).2
    · rw [St.count_no q most (.inr hn)]
      generalize (q.number 4).2 = n at hlt HN hn
      generalize (q.number 4).1 = p at hps hpq HN
      go_enter Tryd.func42, Tryd.ntmps42
      go_wp2_with (first
        | (go_at_call 60; refine (at_any b q _ h).mono ?_; rintro e w' ⟨rfl, rfl⟩)
        | (go_at_call 37; refine (HN h).out.mono ?_; rintro e w1 ⟨rfl, h1, k1⟩)
        | (go_at_call 63; refine (give_any b q.pos p 3 _ (by assumption)).mono ?_; rintro e w2 ⟨rfl, h2, k2⟩))
      go_ret
      exact ⟨rfl, by assumption, Kept.trans (by assumption) (by assumption)⟩
    · rw [St.count_yes q most (fun x => x.elim hm hn)]
      generalize (q.number 4).2 = n at hlt HN hn
      generalize (q.number 4).1 = p at hps hpq HN
      go_enter Tryd.func42, Tryd.ntmps42
      go_wp2_with (first
        | (go_at_call 60; refine (at_any b q _ h).mono ?_; rintro e w' ⟨rfl, rfl⟩)
        | (go_at_call 37; refine (HN h).out.mono ?_; rintro e w1 ⟨rfl, h1, k1⟩))
      go_ret
      exact ⟨rfl, by assumption, by assumption⟩
set_option maxHeartbeats 1000000 in
theorem text_any (b : Nat) (q : St) (most : Int) (w : World) (h : Rd 71 b q w) (hq : q.pos ≤ q.s.size) (hs : q.s.size ≤ maxLen) (hm1 : most ≤ 9223372036854775807) :
    Calls Tryd.prog 40 #[.pointer (some ⟨b, 0, none⟩), .int .i64 most] w fun e w' => e = .returned (.string (q.text most).2) ∧ Rd 71 b (q.text most).1 w' ∧ Kept b w w' := by
  have hlt := q.count_lt most
  have hps := q.count_le most hq
  have hpq := q.count_s most
  have hne := St.back_ne (q.count most).1 q.pos 4 (by decide)
  have HN : ∀ {w : World}, Rd 71 b q w → Hid (Calls Tryd.prog 42 #[.pointer (some ⟨b, 0, none⟩), .int .i64 most] w fun e w' => e = .returned (.int .i64 ((q.count most).2 : Nat)) ∧ Rd 71 b (q.count most).1 w' ∧ Kept b w w') := fun h => count_any b q most _ h hq hs hm1
  by_cases hc : (q.s.size : Int) - (q.count most).1.pos < (q.count most).2
  · rw [St.text_cut q most hq hc]
    generalize (q.count most).2 = n at hlt HN hc
    generalize (q.count most).1 = p at hps hpq HN hc hne
    rw [← hpq] at hc hps hs
    have hbe := St.bytes_err (p.back q.pos 4) n hne
    have hbs := St.back_s p q.pos 4
    have hle := St.back_le p q.pos 4 p.s.size hps (by rw [hpq]; exact hq)
    have HB : ∀ {w : World}, Rd 71 b (p.back q.pos 4) w → Hid (Calls Tryd.prog 62 #[.pointer (some ⟨b, 0, none⟩), .int .i64 n] w fun e w' => e = .returned (.string ⟨#[]⟩) ∧ Rd 71 b (p.back q.pos 4) w' ∧ Kept b w w') := fun h => by
      have := bytes_any b _ n _ h (by rw [hbs]; exact hle) (by rw [hbs]; exact hs)
      rwa [hbe] at this
    have HG : ∀ {w : World}, Rd 71 b p w → Hid (Calls Tryd.prog 63 #[.pointer (some ⟨b, 0, none⟩), .int .i64 q.pos, .int .i64 4] w fun e w' => e = .returned (.tuple #[]) ∧ Rd 71 b (p.back q.pos 4) w' ∧ Kept b w w') := fun h => give_any b q.pos p 4 _ h
    clear hbe hbs hne hle hpq
    generalize p.back q.pos 4 = r at HB HG
    go_enter Tryd.func40, Tryd.ntmps40
    go_wp2_with (first
      | (go_at_call 60; refine (at_any b q _ h).mono ?_; rintro e w' ⟨rfl, rfl⟩)
      | (go_at_call 42; refine (HN h).out.mono ?_; rintro e w1 ⟨rfl, h1, k1⟩)
      | (go_at_call 17; refine (left_any b p _ (by assumption) hps hs).mono ?_; rintro e w' ⟨rfl, rfl⟩)
      | (go_at_call 63; refine (HG (by assumption)).out.mono ?_; rintro e w2 ⟨rfl, h2, k2⟩)
      | (go_at_call 62; refine (HB (by assumption)).out.mono ?_; rintro e w3 ⟨rfl, h3, k3⟩))
    go_ret
    exact ⟨rfl, by assumption, ((Kept.trans (by assumption) (Kept.refl _ _).drew).trans (by assumption)).trans (by assumption)⟩
  · rw [St.text_ok q most hc]
    generalize (q.count most).2 = n at hlt HN hc
    generalize (q.count most).1 = p at hps hpq HN hc
    rw [← hpq] at hc hps hs
    clear hpq
    have HB : ∀ {w : World}, Rd 71 b p w → Hid (Calls Tryd.prog 62 #[.pointer (some ⟨b, 0, none⟩), .int .i64 n] w fun e w' => e = .returned (.string (p.bytes n).2) ∧ Rd 71 b (p.bytes n).1 w' ∧ Kept b w w') := fun h => bytes_any b p n _ h hps hs
    go_enter Tryd.func40, Tryd.ntmps40
    go_wp2_with (first
      | (go_at_call 60; refine (at_any b q _ h).mono ?_; rintro e w' ⟨rfl, rfl⟩)
      | (go_at_call 42; refine (HN h).out.mono ?_; rintro e w1 ⟨rfl, h1, k1⟩)
      | (go_at_call 17; refine (left_any b p _ (by assumption) hps hs).mono ?_; rintro e w' ⟨rfl, rfl⟩)
      | (go_at_call 62; refine (HB (by assumption)).out.mono ?_; rintro e w3 ⟨rfl, h3, k3⟩))
    go_ret
    exact ⟨rfl, by assumption, (Kept.trans (by assumption) (Kept.refl _ _).drew).trans (by assumption)⟩
set_option maxHeartbeats 400000 in
theorem hash_any (b : Nat) (q : St) (w : World) (h : Rd 71 b q w) (hq : q.pos ≤ q.s.size) (hs : q.s.size ≤ maxLen) :
    Calls Tryd.prog 41 #[.pointer (some ⟨b, 0, none⟩)] w fun e w' => e = .returned (.string (q.bytes 32).2) ∧ Rd 71 b (q.bytes 32).1 w' ∧ Kept b w w' := by
  go_enter Tryd.func41, Tryd.ntmps41
  go_wp2_with (go_at_call 62; refine (bytes_any b q 32 _ h hq hs).mono ?_; rintro e w1 ⟨rfl, h1, k1⟩)
  go_ret
  exact ⟨rfl, by assumption, by assumption⟩
set_option maxHeartbeats 1000000 in
theorem bool_any (b : Nat) (q : St) (w : World) (h : Rd 71 b q w) (hq : q.pos ≤ q.s.size) (hs : q.s.size ≤ maxLen) :
    Calls Tryd.prog 39 #[.pointer (some ⟨b, 0, none⟩)] w fun e w' => e = .returned (.bool q.bool.2) ∧ Rd 71 b q.bool.1 w' ∧ Kept b w w' := by
  have HN : ∀ {w : World}, Rd 71 b q w → Hid (Calls Tryd.prog 62 #[.pointer (some ⟨b, 0, none⟩), .int .i64 1] w fun e w' => e = .returned (.string (q.bytes 1).2) ∧ Rd 71 b (q.bytes 1).1 w' ∧ Kept b w w') := fun h => bytes_any b q 1 _ h hq hs
  by_cases hy : (q.bytes 1).2 = ⟨#[121]⟩
  · rw [St.bool_y q hy]
    rw [hy] at HN
    clear hy
    generalize (q.bytes 1).1 = p at HN
    go_enter Tryd.func39, Tryd.ntmps39
    go_wp2_with (first
      | (go_at_call 60; refine (at_any b q _ h).mono ?_; rintro e w' ⟨rfl, rfl⟩)
      | (go_at_call 62; refine (HN h).out.mono ?_; rintro e w1 ⟨rfl, h1, k1⟩))
    go_ret
    exact ⟨rfl, by assumption, by assumption⟩
  · by_cases hn : (q.bytes 1).2 = ⟨#[110]⟩
    · rw [St.bool_n q hn]
      rw [hn] at HN
      clear hy hn
      generalize (q.bytes 1).1 = p at HN
      go_enter Tryd.func39, Tryd.ntmps39
      go_wp2_with (first
        | (go_at_call 60; refine (at_any b q _ h).mono ?_; rintro e w' ⟨rfl, rfl⟩)
        | (go_at_call 62; refine (HN h).out.mono ?_; rintro e w1 ⟨rfl, h1, k1⟩))
      go_ret
      exact ⟨rfl, by assumption, by assumption⟩
    · rw [St.bool_other q hy hn]
      generalize (q.bytes 1).1 = p at HN
      generalize (q.bytes 1).2 = t at HN hy hn
      have hy2 := lit_ne (l := [121]) rfl hy
      have hn2 := lit_ne (l := [110]) rfl hn
      clear hy hn
      go_enter Tryd.func39, Tryd.ntmps39
      go_wp2_with (first
        | (go_at_call 60; refine (at_any b q _ h).mono ?_; rintro e w' ⟨rfl, rfl⟩)
        | (go_at_call 62; refine (HN h).out.mono ?_; rintro e w1 ⟨rfl, h1, k1⟩)
        | (go_at_call 63; refine (give_any b q.pos p 6 _ (by assumption)).mono ?_; rintro e w2 ⟨rfl, h2, k2⟩))
      go_ret
      exact ⟨rfl, by assumption, Kept.trans (by assumption) (by assumption)⟩
set_option maxHeartbeats 400000 in
theorem end_any (b : Nat) (q : St) (w : World) (h : Rd 71 b q w) (hq : q.pos ≤ q.s.size) (hs : q.s.size ≤ maxLen) :
    Calls Tryd.prog 30 #[.pointer (some ⟨b, 0, none⟩)] w fun e w' => e = .returned (.int .i64 q.fin.err) ∧ Rd 71 b q.fin w' ∧ Kept b w w' := by
  by_cases hl : 0 < (q.s.size : Int) - q.pos
  · rw [St.fin_fail q hl]
    go_enter Tryd.func30, Tryd.ntmps30
    go_wp2_with (first
      | (go_at_call 17; refine (left_any b q _ h hq hs).mono ?_; rintro e w' ⟨rfl, rfl⟩)
      | (go_at_call 43; refine (fail_any b q 5 _ (by exact h)).mono ?_; rintro e w1 ⟨rfl, h1, k1⟩)
      | (go_at_call 44; refine (err_any b (q.fail 5) _ (by assumption)).mono ?_; rintro e w' ⟨rfl, rfl⟩))
    go_ret
    exact ⟨rfl, by assumption, ((Kept.refl b w).drew).trans (by assumption)⟩
  · rw [St.fin_end q hl]
    go_enter Tryd.func30, Tryd.ntmps30
    go_wp2_with (first
      | (go_at_call 17; refine (left_any b q _ h hq hs).mono ?_; rintro e w' ⟨rfl, rfl⟩)
      | (go_at_call 44; refine (err_any b q _ (by exact h)).mono ?_; rintro e w' ⟨rfl, rfl⟩))
    go_ret
    exact ⟨rfl, h, (Kept.refl _ _).drew⟩
end Go.Proofs.YtdcgemaaohldmaaDoor
/- The writer's contracts once more, with what they leave alone: all blocks but the writer's own that are no rows of bytes. -/
namespace Go.Wire
open Go.RowKit
/-- What was there below B stands, and all else that is no row of bytes, but for the writer v itself. -/
structure Wrote (B : Nat) (v : Value) (w w' : World) : Prop where
  below : Below B w w'
  spare : ∀ k c T fr, v ≠ .pointer (some ⟨k, 0, none⟩) → T ≠ 5 → w.heap[k]? = some (.cells c T fr) → w'.heap[k]? = w.heap[k]?
theorem Wrote.refl (B : Nat) (v : Value) (w : World) : Wrote B v w w := ⟨Below.refl _ _, fun _ _ _ _ _ _ _ => rfl⟩
theorem Wrote.of {B : Nat} {v : Value} {w w' : World} (h : Below w.heap.size w w') (hB : B ≤ w.heap.size) : Wrote B v w w' := ⟨h.mono hB, fun k _ _ _ _ _ hc => h.block k (row_lt hc)⟩
theorem Wrote.trans {B : Nat} {v : Value} {w w1 w2 : World} (h : Wrote B v w w1) (k : Wrote B v w1 w2) : Wrote B v w w2 :=
  ⟨h.below.trans k.below, fun j c T fr hj hT hc => (k.spare j c T fr hj hT ((h.spare j c T fr hj hT hc).trans hc)).trans (h.spare j c T fr hj hT hc)⟩
theorem Wrote.set {B b : Nat} {w : World} (hB : B ≤ b) (i : Nat) (x : Value) : Wrote B (.pointer (some ⟨b, 0, none⟩)) w (w.setCell ⟨b, i, none⟩ x) :=
  ⟨(Below.refl B w).setCell (p := ⟨b, i, none⟩) hB _, fun k _ _ _ hk _ _ => Below.heap_setCell _ ⟨b, i, none⟩ _ k (fun e => hk (by rw [e]))⟩
theorem Wrote.row {B k : Nat} {v : Value} {w w' : World} {c : Array Value} {T : TypeId} {fr : Nat × Nat} (h : Wrote B v w w') (hk : v ≠ .pointer (some ⟨k, 0, none⟩)) (hT : T ≠ 5) (hc : w.heap[k]? = some (.cells c T fr)) : w'.heap[k]? = some (.cells c T fr) := (h.spare k c T fr hk hT hc).trans hc
theorem own_tag {w : World} {B n k : Nat} {v : Value} {xs : List Value} {c : Array Value} {T : TypeId} {fr : Nat × Nat} (h : w.ownsRow B 5 1 v n xs) (e : v.ownBlock = some k) (hc : w.heap[k]? = some (.cells c T fr)) : T = 5 := by
  rcases h.2 with ⟨rfl, _⟩ | ⟨g, cap, cur, rfl, _, hg, _⟩
  · cases e
  · obtain rfl : g = k := by simpa [Value.ownBlock] using e
    rw [hg] at hc
    simp only [Option.some.injEq, Obj.cells.injEq] at hc
    exact hc.2.1.symm
end Go.Wire
namespace Go.Proofs.YtdcgemaaohldmaaDoor
open Go.RowKit Go.Wire
theorem copyCheck_sp (B b : Nat) (l : List UInt8) (w : World) (h : Wr 64 B b l w) :
    Calls Tryd.prog 78 #[.pointer (some ⟨b, 0, none⟩)] w fun e w' => e = .returned (.tuple #[]) ∧ (∃ v, w'.heap[b]? = some (.cells #[.pointer (some ⟨b, 0, none⟩), v] 64 (0, 0)) ∧ w'.ownsRow B 5 1 v l.length (Lib.byteCells l) ∧ v.ownBlock ≠ some b ∧ (l = [] → v = .slice none 0 0)) ∧ Wrote B (.pointer (some ⟨b, 0, none⟩)) w w' := by
  obtain ⟨hB, p, v, hp, hb, ho, hn, he⟩ := h
  have hat : Lib.BuilderAt 64 5 B b p (Lib.byteCells l) w := ⟨hB, v, hb, by rw [Lib.byteCells_length]; exact ho, hn⟩
  rcases hp with rfl | rfl
  · refine (copyCheck_fresh b w hat.cell0 hat.shape hat.frozen0).mono ?_
    rintro e w' ⟨rfl, rfl⟩
    have hb' : (w.setCell ⟨b, 0, none⟩ (.pointer (some ⟨b, 0, none⟩))).heap[b]? = some (.cells #[.pointer (some ⟨b, 0, none⟩), v] 64 (0, 0)) := by rw [heap_setCell_same _ _ _ _ _ _ hb]; rfl
    obtain ⟨-, v', h1, h2, h3⟩ := hat.used (.pointer (some ⟨b, 0, none⟩))
    rw [hb'] at h1
    obtain rfl : v = v' := by simpa using h1
    rw [Lib.byteCells_length] at h2
    exact ⟨rfl, ⟨v, hb', h2, h3, he⟩, Wrote.set hB 0 _⟩
  · refine (copyCheck_used b w hat.cell0).mono ?_
    rintro e w' ⟨rfl, rfl⟩
    exact ⟨rfl, ⟨v, hb, ho, hn, he⟩, Wrote.refl _ _ _⟩
set_option maxHeartbeats 2000000 in
set_option maxRecDepth 100000 in
theorem writeString_sp (B b : Nat) (l : List UInt8) (s : ByteArray) (w : World) (h : Wr 64 B b l w) (hlen : l.length + s.size ≤ 140737488355328) (hBw : B ≤ w.heap.size) :
    Calls Tryd.prog 70 #[.pointer (some ⟨b, 0, none⟩), .string s] w fun e w' => e = .returned (.tuple #[.int .i64 s.size, .nilIface]) ∧ Wr 64 B b (l ++ s.data.toList) w' ∧ Wrote B (.pointer (some ⟨b, 0, none⟩)) w w' := by
  have hB := h.1
  obtain ⟨i0, hi, hz0, hz1, hz2⟩ := info_parts info5
  go_enter Tryd.func70, Tryd.ntmps70
  go_wp2_with (go_at_call 78; refine (copyCheck_sp B b l _ h).mono ?_)
  rintro e w1 ⟨rfl, ⟨v, hbk, hown, hne, hnil⟩, hb1⟩
  have c0 : w1.cell? ⟨b, 0, none⟩ = some (.pointer (some ⟨b, 0, none⟩)) := by rw [Lib.cell_of_heap hbk]; rfl
  have c1 : w1.cell? ⟨b, 1, none⟩ = some v := by rw [Lib.cell_of_heap hbk]; rfl
  go_wp2_with (at_builtin; refine Lib.wpList_append_own_string _ rfl _ _ 60 9 rfl B 5 i0 underB under9 hi hz0 hz1 hz2 _ _ _ rfl hown s rfl ?c3 ?c4 ?c5 ?_)
  case c3 => unfold maxLen; omega
  case c4 => omega
  case c5 => have := hb1.below.size; omega
  intro v' w2 hown' hgrow hiff
  have hlt : b < w1.heap.size := by
    rcases Nat.lt_or_ge b w1.heap.size with h' | h'
    · exact h'
    · simp [Array.getElem?_eq_none h'] at hbk
  have hb2 : w2.heap[b]? = some (.cells #[.pointer (some ⟨b, 0, none⟩), v] 64 (0, 0)) := by
    rw [hgrow.block b hlt (fun e => hne e.symm)]
    exact hbk
  have d0 : w2.cell? ⟨b, 0, none⟩ = some (.pointer (some ⟨b, 0, none⟩)) := by rw [Lib.cell_of_heap hb2]; rfl
  have d1 : w2.cell? ⟨b, 1, none⟩ = some v := by rw [Lib.cell_of_heap hb2]; rfl
  have f1 : w2.frozen? ⟨b, 1, none⟩ = false := Lib.frozen_of_heap hb2 1
  have HI : Hid (v' = .slice none 0 0 ↔ v = .slice none 0 0 ∧ s = ByteArray.empty) := hiff
  have HV : Hid (l = [] → v = .slice none 0 0) := hnil
  clear hiff hnil
  obtain ⟨ao, n', cap, rfl⟩ : ∃ ao n' cap, v' = .slice ao n' cap := by
    rcases hown'.2 with ⟨hv, _⟩ | ⟨g, cap, cur, hv, _⟩
    · exact ⟨_, _, _, hv⟩
    · exact ⟨_, _, _, hv⟩
  go_wp2
  go_ret2
  refine ⟨rfl, ?_, ?_⟩
  · obtain ⟨-, v2, h1, h2, h3⟩ := Lib.BuilderAt.put (T := 64) (e := 5) hB hb2 (v' := .slice ao n' cap) (bs' := Lib.byteCells (l ++ s.data.toList)) (by rw [Lib.byteCells_length, List.length_append, Lib.byteCells_append]; exact hown') neB5
    have hb3 : (w2.setCell ⟨b, 1, none⟩ (.slice ao n' cap)).heap[b]? = some (.cells #[.pointer (some ⟨b, 0, none⟩), .slice ao n' cap] 64 (0, 0)) := by rw [heap_setCell_same _ _ _ _ _ _ hb2]; rfl
    rw [hb3] at h1
    obtain rfl : Value.slice ao n' cap = v2 := by simpa using h1
    rw [Lib.byteCells_length] at h2
    refine ⟨hB, _, _, .inr rfl, hb3, h2, h3, fun h0 => ?_⟩
    obtain ⟨ha, hs0⟩ := List.append_eq_nil_iff.1 h0
    exact HI.out.2 ⟨HV.out ha, ByteArray.ext (Array.toList_inj.1 hs0)⟩
  · refine ⟨(hb1.below.grown hgrow (by have := hb1.below.size; omega) (fun k hk => (hown.lt k hk).1)).setCell (p := ⟨b, 1, none⟩) hB _, fun k c T fr hk hT hc => ?_⟩
    have hk1 := hb1.spare k c T fr hk hT hc
    have hkb : k ≠ b := fun e => hk (by rw [e])
    rw [Below.heap_setCell _ ⟨b, 1, none⟩ _ k hkb, hgrow.block k (row_lt (hk1.trans hc)) (fun e => hT (own_tag hown e.symm (hk1.trans hc))), hk1]
set_option maxHeartbeats 400000 in
theorem wbytes_sp (B : Nat) (v : Value) (l : List UInt8) (s : ByteArray) (w : World) (h : WAt 64 B v l w) (hl : v = .pointer none ∨ l.length + s.size ≤ 140737488355328) (hB : B ≤ w.heap.size) :
    Calls Tryd.prog 57 #[v, .string s] w fun e w' => e = .returned (.tuple #[]) ∧ WAt 64 B v (l ++ s.data.toList) w' ∧ Wrote B v w w' := by
  rcases h with rfl | ⟨b, rfl, hr⟩
  · go_enter Tryd.func57, Tryd.ntmps57
    go_wp2
    go_end0
    exact ⟨rfl, .inl rfl, Wrote.refl _ _ _⟩
  · have hl2 : l.length + s.size ≤ 140737488355328 := hl.resolve_left (by intro x; cases x)
    clear hl
    go_enter Tryd.func57, Tryd.ntmps57
    go_wp2_with (go_at_call 70; refine (writeString_sp B b l s _ hr hl2 hB).mono ?_; rintro e w1 ⟨rfl, h1, k1⟩)
    go_end0
    exact ⟨rfl, .inr ⟨b, rfl, by assumption⟩, by assumption⟩
set_option maxHeartbeats 400000 in
theorem wnumber_sp (B : Nat) (v : Value) (l : List UInt8) (n : Nat) (k : Int) (w : World) (h : WAt 64 B v l w) (hl : v = .pointer none ∨ l.length + 16 ≤ 140737488355328) (hB : B ≤ w.heap.size) (hn : n < 18446744073709551616) :
    Calls Tryd.prog 31 #[v, .int .u64 n, .int .i64 k] w fun e w' => e = .returned (.tuple #[]) ∧ WAt 64 B v (l ++ num (2 * (min (max k 0) 8).toNat) n) w' ∧ Wrote B v w w' := by
  have HN : Hid (∀ w : World, Calls Tryd.prog 58 #[.int .u64 n, .int .i64 k] w fun e w' => e = .returned (.string (numB (2 * (min (max k 0) 8).toNat) n)) ∧ Below w.heap.size w w') := fun w => number_any n k w hn
  have hz := numB_size (2 * (min (max k 0) 8).toNat) n
  have he := numB_list (2 * (min (max k 0) 8).toNat) n
  rw [← he]
  have hz2 : (numB (2 * (min (max k 0) 8).toNat) n).size ≤ 16 := by rw [hz]; omega
  generalize numB (2 * (min (max k 0) 8).toNat) n = t at HN hz2
  clear he hz
  have hl2 : v = .pointer none ∨ l.length + t.size ≤ 140737488355328 := hl.imp id (fun x => by omega)
  clear hl
  go_enter Tryd.func31, Tryd.ntmps31
  go_wp2_with (go_at_call 58; refine (HN.out _).mono ?_)
  rintro e w1 ⟨rfl, k1⟩
  have h1 := h.below k1
  have hB1 := Nat.le_trans hB k1.size
  go_wp2_with (go_at_call 57; refine (wbytes_sp B v l t _ h1 hl2 hB1).mono ?_)
  rintro e w2 ⟨rfl, h2, k2⟩
  go_wp2
  go_end0
  exact ⟨rfl, h2, (Wrote.of k1 hB).trans k2⟩
set_option maxHeartbeats 400000 in
theorem wcount_sp (B : Nat) (v : Value) (l : List UInt8) (k : Int) (w : World) (h : WAt 64 B v l w) (hl : v = .pointer none ∨ l.length + 16 ≤ 140737488355328) (hB : B ≤ w.heap.size) (hk : k ≤ 9223372036854775807) :
    Calls Tryd.prog 36 #[v, .int .i64 k] w fun e w' => e = .returned (.tuple #[]) ∧ WAt 64 B v (l ++ num 8 (max k 0).toNat) w' ∧ Wrote B v w w' := by
  have HN : Hid (∀ n : Nat, n < 18446744073709551616 → Calls Tryd.prog 31 #[v, .int .u64 n, .int .i64 4] w fun e w' => e = .returned (.tuple #[]) ∧ WAt 64 B v (l ++ num 8 n) w' ∧ Wrote B v w w') := fun n hn => wnumber_sp B v l n 4 w h hl hB hn
  clear h hl hB
  by_cases h0 : k < 0
  · rw [show (max k 0).toNat = 0 by omega]
    go_enter Tryd.func36, Tryd.ntmps36
    go_wp2_with (go_at_call 31; refine (HN.out 0 (by decide)).mono ?_; rintro e w1 ⟨rfl, h1, k1⟩)
    go_end0
    exact ⟨rfl, by assumption, by assumption⟩
  · obtain ⟨n, rfl⟩ : ∃ n : Nat, k = n := ⟨k.toNat, by omega⟩
    rw [show (max (n : Int) 0).toNat = n by omega]
    go_enter Tryd.func36, Tryd.ntmps36
    go_wp2_with (go_at_call 31; refine (HN.out n (by omega)).mono ?_; rintro e w1 ⟨rfl, h1, k1⟩)
    go_end0
    exact ⟨rfl, by assumption, by assumption⟩
set_option maxHeartbeats 400000 in
theorem wtext_sp (B : Nat) (v : Value) (l : List UInt8) (s : ByteArray) (w : World) (h : WAt 64 B v l w) (hl : v = .pointer none ∨ l.length + s.size + 16 ≤ 140737488355328) (hB : B ≤ w.heap.size) (hs : s.size ≤ maxLen) :
    Calls Tryd.prog 34 #[v, .string s] w fun e w' => e = .returned (.tuple #[]) ∧ WAt 64 B v (l ++ (num 8 s.size ++ s.data.toList)) w' ∧ Wrote B v w w' := by
  have HN : Hid (∀ w : World, Calls Tryd.prog 59 #[.string s] w fun e w' => e = .returned (.string (numB 8 s.size)) ∧ Below w.heap.size w w') := fun w => count8_any s w hs
  have hz := numB_size 8 s.size
  have he := numB_list 8 s.size
  rw [← he, ← List.append_assoc]
  generalize numB 8 s.size = t at HN hz
  clear he
  have hl1 : v = .pointer none ∨ l.length + t.size ≤ 140737488355328 := hl.imp id (fun x => by omega)
  have hl2 : v = .pointer none ∨ (l ++ t.data.toList).length + s.size ≤ 140737488355328 := hl.imp id (fun x => by simp only [List.length_append, Array.length_toList]; show l.length + t.size + s.size ≤ _; omega)
  clear hl
  go_enter Tryd.func34, Tryd.ntmps34
  go_wp2_with (go_at_call 59; refine (HN.out _).mono ?_)
  rintro e w1 ⟨rfl, k1⟩
  have h1 := h.below k1
  have hB1 := Nat.le_trans hB k1.size
  go_wp2_with (go_at_call 57; refine (wbytes_sp B v l t _ h1 hl1 hB1).mono ?_)
  rintro e w2 ⟨rfl, h2, k2⟩
  have hB2 := Nat.le_trans hB1 k2.below.size
  go_wp2_with (go_at_call 57; refine (wbytes_sp B v _ s _ h2 hl2 hB2).mono ?_)
  rintro e w3 ⟨rfl, h3, k3⟩
  go_wp2
  go_end0
  exact ⟨rfl, h3, ((Wrote.of k1 hB).trans k2).trans k3⟩
theorem size5' : (Tryd.prog.info? 5).map (·.size) = some 1 := by kernel_rfl
theorem zero32' : (Tryd.prog.info? 86).map (fun i => (i.zero, i.size)) = some (some (.agg (bcells zeros32)), 32) := by kernel_rfl
set_option maxHeartbeats 400000 in
theorem whash_sp (B : Nat) (v : Value) (l : List UInt8) (s : ByteArray) (w : World) (h : WAt 64 B v l w) (hl : v = .pointer none ∨ l.length + 32 ≤ 140737488355328) (hB : B ≤ w.heap.size) :
    Calls Tryd.prog 35 #[v, .string s] w fun e w' => e = .returned (.tuple #[]) ∧ WAt 64 B v (l ++ pad s.data.toList) w' ∧ Wrote B v w w' := by
  have hz := (zero_of_info zero32').1
  have HZ : Hid ((bcells zeros32).size = 32) := by rw [Hid, bcells_size]; rfl
  obtain ⟨m, hm⟩ : ∃ m, min s.size 32 = m := ⟨_, rfl⟩
  have HM : Hid (min s.size 32 = m ∧ m ≤ 32) := ⟨hm, by omega⟩
  clear hm
  go_enter Tryd.func35, Tryd.ntmps35
  have hpn := pad_length s.data.toList
  have hp0 : pad s.data.toList ≠ [] := by intro x; rw [x] at hpn; simp at hpn
  have hpz : (⟨(pad s.data.toList).toArray⟩ : ByteArray).size = 32 := by show (pad s.data.toList).toArray.size = 32; rw [List.size_toArray, hpn]
  have HP : Hid (∀ W, (w.alloc (.cells (bcells zeros32) 86 (0, 0))).setRow w.heap.size (Lib.byteCells (s.data.toList.take m) ++ (bcells zeros32).toList.drop m).toArray = W → ByteRow.Has w.heap.size W (.slice (some ⟨w.heap.size, 0, none⟩) 32 32) (pad s.data.toList) ∧ Below w.heap.size w W) := fun W hW => pad_world HM.out.1 hW
  clear hpn
  generalize pad s.data.toList = P at hp0 hpz HP
  have hl2 : v = .pointer none ∨ l.length + (⟨P.toArray⟩ : ByteArray).size ≤ 140737488355328 := hl.imp id (fun x => by rw [hpz]; exact x)
  clear hl hpz
  go_wp2_with (first
    | (refine wpList_copy_row_min rfl _ _ 60 9 rfl 5 underB size5' w.heap.size 32 32 m s rfl rfl (bcells zeros32) 86 (heap_alloc_new _ _) HM.out.1 (by rw [HZ.out]; exact HM.out.2) ?_
       generalize hW : World.setRow _ _ _ = W
       have HW : Hid (ByteRow.Has w.heap.size W (.slice (some ⟨w.heap.size, 0, none⟩) 32 32) P ∧ Below w.heap.size w W) := HP.out W hW
       clear hW)
    | (refine ByteRow.to_string _ rfl 60 9 5 _ rfl P rfl HW.out.1 hp0 underB under5 under9 ?_))
  have h1 := h.below HW.out.2
  have hB1 := Nat.le_trans hB HW.out.2.size
  refine (wbytes_sp B v l ⟨P.toArray⟩ _ h1 hl2 hB1).mono ?_
  rintro e w2 ⟨rfl, h2, k2⟩
  go_wp2
  go_end0
  exact ⟨rfl, h2, (Wrote.of HW.out.2 hB).trans k2⟩
set_option maxHeartbeats 400000 in
theorem wbool_sp (B : Nat) (v : Value) (l : List UInt8) (x : Bool) (w : World) (h : WAt 64 B v l w) (hl : v = .pointer none ∨ l.length + 1 ≤ 140737488355328) (hB : B ≤ w.heap.size) :
    Calls Tryd.prog 33 #[v, .bool x] w fun e w' => e = .returned (.tuple #[]) ∧ WAt 64 B v (l ++ [if x then 121 else 110]) w' ∧ Wrote B v w w' := by
  cases x
  · go_enter Tryd.func33, Tryd.ntmps33
    go_wp2_with (go_at_call 57; refine (wbytes_sp B v l ⟨#[110]⟩ _ h hl hB).mono ?_; rintro e w1 ⟨rfl, h1, k1⟩)
    go_end0
    exact ⟨rfl, by assumption, by assumption⟩
  · go_enter Tryd.func33, Tryd.ntmps33
    go_wp2_with (go_at_call 57; refine (wbytes_sp B v l ⟨#[121]⟩ _ h hl hB).mono ?_; rintro e w1 ⟨rfl, h1, k1⟩)
    go_end0
    exact ⟨rfl, by assumption, by assumption⟩
end Go.Proofs.YtdcgemaaohldmaaDoor
/- A writer that is only asked any more: what it has is told again and again. -/
namespace Go.Wire
open Go.RowKit
theorem freeze_same {w : World} {g : Nat} {cur : Array Value} {T : TypeId} {fr : Nat × Nat} (h : w.heap[g]? = some (.cells cur T fr)) (n : Nat) : ∃ fr', (w.freeze ⟨g, 0, none⟩ n).heap[g]? = some (.cells cur T fr') := by
  unfold World.freeze
  split
  · exact ⟨fr, h⟩
  · obtain ⟨lo, hi⟩ := fr
    refine ⟨if lo == hi then (0, 0 + n) else (min lo 0, max hi (0 + n)), ?_⟩
    simp only [Array.getElem?_modify, if_true, h, Option.map_some]
/-- Block b is a writer that has the bytes l; they may have been told. -/
def Wt (T B b : Nat) (l : List UInt8) (w : World) : Prop :=
  ∃ p, (l = [] ∧ w.heap[b]? = some (.cells #[p, .slice none 0 0] T (0, 0))) ∨
    ∃ g cap cur fr, l ≠ [] ∧ B ≤ g ∧ g ≠ b ∧ w.heap[b]? = some (.cells #[p, .slice (some ⟨g, 0, none⟩) l.length cap] T (0, 0)) ∧ w.heap[g]? = some (.cells cur 5 fr) ∧ l.length ≤ cap ∧ cap ≤ maxLen ∧ cur.size = cap * 1 ∧ cur.toList.take (l.length * 1) = Lib.byteCells l
theorem Wr.told {T B b : Nat} {l : List UInt8} {w : World} (h : Wr T B b l w) : Wt T B b l w := by
  obtain ⟨hBb, p, v, hp, hb, ho, hn, he⟩ := h
  refine ⟨p, ?_⟩
  by_cases h0 : l = []
  · have hv := he h0
    subst hv
    exact .inl ⟨h0, hb⟩
  · have hl0 : l.length ≠ 0 := by simpa using h0
    rcases ho.2 with ⟨_, hz⟩ | ⟨g, cap, cur, hv, hbg, hg, hnc, hcm, hcs, htake⟩
    · exact absurd hz hl0
    · subst hv
      exact .inr ⟨g, cap, cur, _, h0, hbg, fun e => hn (by rw [e]; rfl), hb, hg, hnc, hcm, hcs, htake⟩
theorem Wt.below {T B b : Nat} {l : List UInt8} {w w' : World} (h : Wt T B b l w) (k : Below w.heap.size w w') : Wt T B b l w' := by
  have kb : ∀ {g : Nat} {o : Obj}, w.heap[g]? = some o → w'.heap[g]? = some o := fun {g o} h => (k.block g (by
    rcases Nat.lt_or_ge g w.heap.size with x | x
    · exact x
    · rw [Array.getElem?_eq_none x] at h; cases h)).trans h
  obtain ⟨p, h | ⟨g, cap, cur, fr, h0, h1, h2, h3, h4, h5⟩⟩ := h
  · exact ⟨p, .inl ⟨h.1, kb h.2⟩⟩
  · exact ⟨p, .inr ⟨g, cap, cur, fr, h0, h1, h2, kb h3, kb h4, h5⟩⟩
end Go.Wire
namespace Go.Proofs.YtdcgemaaohldmaaDoor
open Go.RowKit Go.Wire
set_option maxHeartbeats 2000000 in
set_option maxRecDepth 100000 in
theorem bstring_told (B b g cap : Nat) (fr : Nat × Nat) (p : Value) (cur : Array Value) (l : List UInt8) (w : World) (h0 : l ≠ []) (hbg : B ≤ g) (hgb : g ≠ b) (hbk : w.heap[b]? = some (.cells #[p, .slice (some ⟨g, 0, none⟩) l.length cap] 64 (0, 0)))
    (hg : w.heap[g]? = some (.cells cur 5 fr)) (hnc : l.length ≤ cap) (hcm : cap ≤ maxLen) (hcs : cur.size = cap * 1) (htake : cur.toList.take (l.length * 1) = Lib.byteCells l) :
    Calls Tryd.prog 50 #[.pointer (some ⟨b, 0, none⟩)] w fun e w' => e = .returned (.string ⟨l.toArray⟩) ∧ w'.heap[b]? = some (.cells #[p, .slice (some ⟨g, 0, none⟩) l.length cap] 64 (0, 0)) ∧ (∃ fr', w'.heap[g]? = some (.cells cur 5 fr')) ∧ Wrote B (.pointer none) w w' := by
  have hl0 : l.length ≠ 0 := by simpa using h0
  have c1 : w.drew.cell? ⟨b, 1, none⟩ = some (.slice (some ⟨g, 0, none⟩) l.length cap) := by
    have : w.drew.heap[b]? = some (.cells #[p, .slice (some ⟨g, 0, none⟩) l.length cap] 64 (0, 0)) := hbk
    rw [Lib.cell_of_heap this]; rfl
  have hSD : (Builtin.unsafeSliceData_ #[60] 91 #[.slice (some ⟨g, 0, none⟩) l.length cap]).run Tryd.prog w.drew = .ok (.pointer (some ⟨g, 0, none⟩)) w.drew :=
    Lib.run_unsafeSliceData_row _ _ _ _ _ _ (by omega)
  have hUS : (Builtin.unsafeString_ #[91, 3] 9 #[.pointer (some ⟨g, 0, none⟩), .int .i64 l.length]).run Tryd.prog w.drew = .ok (.string ⟨l.toArray⟩) (w.drew.freeze ⟨g, 0, none⟩ l.length) := by
    refine Lib.run_unsafeString_row w.drew 91 3 9 5 underP5 cells5 g cur.size (by have hg' : w.drew.heap[g]? = some (.cells cur 5 fr) := hg; simp [World.shape?, hg']) l h0 (by omega) (by unfold maxLen at hcm; omega) ?_
    intro j x hx
    have hj : j < l.length := (List.getElem?_eq_some_iff.1 hx).1
    have hg' : w.drew.heap[g]? = some (.cells cur 5 fr) := hg
    rw [show (⟨g, 0, none⟩ : Addr).add j = ⟨g, j, none⟩ by unfold Addr.add; split <;> simp_all, Lib.cell_of_heap hg', ← Array.getElem?_toList]
    have h1 : (cur.toList.take (l.length * 1))[j]? = some (.int .u8 x.toNat) := by rw [htake]; simp [Lib.byteCells, hx]
    rwa [List.getElem?_take_of_lt (by omega)] at h1
  have HB : Hid ((w.drew.freeze ⟨g, 0, none⟩ l.length).heap[b]? = some (.cells #[p, .slice (some ⟨g, 0, none⟩) l.length cap] 64 (0, 0))) := (freeze_other _ ⟨g, 0, none⟩ _ b (fun e => hgb e.symm)).trans hbk
  have HG : Hid (∃ fr', (w.drew.freeze ⟨g, 0, none⟩ l.length).heap[g]? = some (.cells cur 5 fr')) := freeze_same (show w.drew.heap[g]? = _ from hg) _
  have HO : Hid (Wrote B (.pointer none) w (w.drew.freeze ⟨g, 0, none⟩ l.length)) := ⟨Lib.below_freeze (Below.drew (Below.refl B w)) (p := ⟨g, 0, none⟩) hbg _, fun k c T fr' _ hT hc => freeze_other _ ⟨g, 0, none⟩ _ k (fun e => hT (by
    have e : k = g := e
    rw [e, hg] at hc
    simp only [Option.some.injEq, Obj.cells.injEq] at hc
    exact hc.2.1.symm))⟩
  have mixed : Tryd.prog.follows Departure.mixedOrders = true := by kernel_rfl
  go_enter Tryd.func50, Tryd.ntmps50
  go_wp2
  go_region_o
  all_goals (go_wp2; go_ret; exact ⟨rfl, HB.out, HG.out, HO.out⟩)
set_option maxHeartbeats 400000 in
theorem all_told (B b : Nat) (l : List UInt8) (w : World) (hB : B ≤ w.heap.size) (h : Wt 64 B b l w) :
    Calls Tryd.prog 16 #[.pointer (some ⟨b, 0, none⟩)] w fun e w' => e = .returned (.string ⟨l.toArray⟩) ∧ Wt 64 B b l w' ∧ Wrote B (.pointer none) w w' := by
  have HS : Hid (Calls Tryd.prog 50 #[.pointer (some ⟨b, 0, none⟩)] w fun e w' => e = .returned (.string ⟨l.toArray⟩) ∧ Wt 64 B b l w' ∧ Wrote B (.pointer none) w w') := by
    obtain ⟨p, ⟨h0, hb⟩ | ⟨g, cap, cur, fr, h0, hbg, hgb, hb, hg, hnc, hcm, hcs, htake⟩⟩ := h
    · subst h0
      exact (bstring_nil b p w hb).mono fun e w' ⟨h1, h2, h3⟩ => ⟨h1, ⟨p, .inl ⟨rfl, by rw [h2]; exact hb⟩⟩, Wrote.of h3 hB⟩
    · exact (bstring_told B b g cap fr p cur l w h0 hbg hgb hb hg hnc hcm hcs htake).mono fun e w' ⟨h1, h2, ⟨fr', h4⟩, h3⟩ => ⟨h1, ⟨p, .inr ⟨g, cap, cur, fr', h0, hbg, hgb, h2, h4, hnc, hcm, hcs, htake⟩⟩, h3⟩
  go_enter Tryd.func16, Tryd.ntmps16
  go_wp2_with (go_at_call 50; refine HS.out.mono ?_; rintro e w1 ⟨rfl, h1, k1⟩)
  go_ret
  exact ⟨rfl, h1, k1⟩
end Go.Proofs.YtdcgemaaohldmaaDoor
/- Contracts of texts and frames: the program's and the document's. -/
namespace Go.Wire
def textB (s : ByteArray) : ByteArray := numB 8 s.size ++ s
def frameB (s : ByteArray) : ByteArray := numB 8 s.size ++ numB 8 (fnv (textB s).data.toList) ++ s
theorem textB_size (s : ByteArray) : (textB s).size = s.size + 8 := by
  rw [textB, ByteArray.size_append, numB_size]; omega
theorem frameB_size (s : ByteArray) : (frameB s).size = s.size + 16 := by
  rw [frameB, ByteArray.size_append, ByteArray.size_append, numB_size, numB_size]; omega
end Go.Wire
namespace Go.Proofs.YtdcgemaaohldmaaDoor
open Go.RowKit Go.Wire
set_option maxHeartbeats 400000 in
theorem rtextB_any (s : ByteArray) (w : World) (hs : s.size ≤ 1000000) :
    Calls Tryd.prog 47 #[.string s] w fun e w' => e = .returned (.string (textB s)) ∧ Below w.heap.size w w' := by
  have HN : Hid (∀ w : World, Calls Tryd.prog 45 #[.int .u64 s.size, .int .i64 4] w fun e w' => e = .returned (.string (numB 8 s.size)) ∧ Below w.heap.size w w') := fun w => rnum_any s.size 4 w (by omega) (by decide)
  have hz := numB_size 8 s.size
  unfold textB
  generalize numB 8 s.size = t at HN hz
  go_enter Tryd.func47, Tryd.ntmps47
  go_wp2_with (go_at_call 45; refine (HN.out _).mono ?_; rintro e w1 ⟨rfl, k1⟩)
  go_ret
  exact ⟨rfl, by assumption⟩
end Go.Proofs.YtdcgemaaohldmaaDoor
