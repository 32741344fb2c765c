/- Contracts of the writer: one that is there, and a nil one. -/
import Derived.Test.YtdcgemaaohldmaaWireBuilder
import Derived.Test.YtdcgemaaohldmaaWireCopy
import Derived.Test.YtdcgemaaohldmaaWireCount8
import Derived.Laws.IdiomStrings
namespace Go.Wire
open Go.RowKit
/-- The pointer v is nil, or leads to a writer of the bytes l. -/
def WAt (T B : Nat) (v : Value) (l : List UInt8) (w : World) : Prop := v = .pointer none ∨ ∃ b, v = .pointer (some ⟨b, 0, none⟩) ∧ Wr T B b l w
theorem WAt.below {T B : Nat} {v : Value} {l : List UInt8} {w w' : World} (h : WAt T B v l w) (k : Below w.heap.size w w') : WAt T B v l w' := by
  rcases h with h | ⟨b, h, hr⟩
  · exact .inl h
  · exact .inr ⟨b, h, hr.below k⟩
end Go.Wire
namespace Go.Proofs.Ytdcgemaaohldmaa
open Go.RowKit Go.Wire
set_option maxHeartbeats 400000 in
theorem wbytes_any (B : Nat) (v : Value) (l : List UInt8) (s : ByteArray) (w : World) (h : WAt 99 B v l w) (hl : v = .pointer none ∨ l.length + s.size ≤ 140737488355328) (hB : B ≤ w.heap.size) :
    Calls Try.prog 67 #[v, .string s] w fun e w' => e = .returned (.tuple #[]) ∧ WAt 99 B v (l ++ s.data.toList) w' ∧ Below B w w' := by
  rcases h with rfl | ⟨b, rfl, hr⟩
  · go_enter Try.func67, Try.ntmps67
    go_wp2
    go_end0
    exact ⟨rfl, .inl rfl, Below.refl _ _⟩
  · have hl2 : l.length + s.size ≤ 140737488355328 := hl.resolve_left (by intro x; cases x)
    clear hl
    go_enter Try.func67, Try.ntmps67
    go_wp2_with (go_at_call 70; refine (writeString_any B b l s _ hr hl2 hB).mono ?_; rintro e w1 ⟨rfl, h1, k1⟩)
    go_end0
    exact ⟨rfl, .inr ⟨b, rfl, by assumption⟩, by assumption⟩
set_option maxHeartbeats 400000 in
theorem wnumber_any (B : Nat) (v : Value) (l : List UInt8) (n : Nat) (k : Int) (w : World) (h : WAt 99 B v l w) (hl : v = .pointer none ∨ l.length + 16 ≤ 140737488355328) (hB : B ≤ w.heap.size) (hn : n < 18446744073709551616) :
    Calls Try.prog 60 #[v, .int .u64 n, .int .i64 k] w fun e w' => e = .returned (.tuple #[]) ∧ WAt 99 B v (l ++ num (2 * (min (max k 0) 8).toNat) n) w' ∧ Below B w w' := by
  have HN : Hid (∀ w : World, Calls Try.prog 68 #[.int .u64 n, .int .i64 k] w fun e w' => e = .returned (.string (numB (2 * (min (max k 0) 8).toNat) n)) ∧ Below w.heap.size w w') := fun w => number_any n k w hn
  have hz := numB_size (2 * (min (max k 0) 8).toNat) n
  have he := numB_list (2 * (min (max k 0) 8).toNat) n
  rw [← he]
  have hz2 : (numB (2 * (min (max k 0) 8).toNat) n).size ≤ 16 := by rw [hz]; omega
  generalize numB (2 * (min (max k 0) 8).toNat) n = t at HN hz2
  clear he hz
  have hl2 : v = .pointer none ∨ l.length + t.size ≤ 140737488355328 := hl.imp id (fun x => by omega)
  clear hl
  go_enter Try.func60, Try.ntmps60
  go_wp2_with (go_at_call 68; refine (HN.out _).mono ?_)
  rintro e w1 ⟨rfl, k1⟩
  have h1 := h.below k1
  have hB1 := Nat.le_trans hB k1.size
  go_wp2_with (go_at_call 67; refine (wbytes_any B v l t _ h1 hl2 hB1).mono ?_)
  rintro e w2 ⟨rfl, h2, k2⟩
  go_wp2
  go_end0
  exact ⟨rfl, h2, (k1.mono hB).trans k2⟩
set_option maxHeartbeats 400000 in
theorem wcount_any (B : Nat) (v : Value) (l : List UInt8) (k : Int) (w : World) (h : WAt 99 B v l w) (hl : v = .pointer none ∨ l.length + 16 ≤ 140737488355328) (hB : B ≤ w.heap.size) (hk : k ≤ 9223372036854775807) :
    Calls Try.prog 65 #[v, .int .i64 k] w fun e w' => e = .returned (.tuple #[]) ∧ WAt 99 B v (l ++ num 8 (max k 0).toNat) w' ∧ Below B w w' := by
  have HN : Hid (∀ n : Nat, n < 18446744073709551616 → Calls Try.prog 60 #[v, .int .u64 n, .int .i64 4] w fun e w' => e = .returned (.tuple #[]) ∧ WAt 99 B v (l ++ num 8 n) w' ∧ Below B w w') := fun n hn => wnumber_any B v l n 4 w h hl hB hn
  clear h hl hB
  by_cases h0 : k < 0
  · rw [show (max k 0).toNat = 0 by omega]
    go_enter Try.func65, Try.ntmps65
    go_wp2_with (go_at_call 60; refine (HN.out 0 (by decide)).mono ?_; rintro e w1 ⟨rfl, h1, k1⟩)
    go_end0
    exact ⟨rfl, by assumption, by assumption⟩
  · obtain ⟨n, rfl⟩ : ∃ n : Nat, k = n := ⟨k.toNat, by omega⟩
    rw [show (max (n : Int) 0).toNat = n by omega]
    go_enter Try.func65, Try.ntmps65
    go_wp2_with (go_at_call 60; refine (HN.out n (by omega)).mono ?_; rintro e w1 ⟨rfl, h1, k1⟩)
    go_end0
    exact ⟨rfl, by assumption, by assumption⟩
set_option maxHeartbeats 400000 in
theorem wtext_any (B : Nat) (v : Value) (l : List UInt8) (s : ByteArray) (w : World) (h : WAt 99 B v l w) (hl : v = .pointer none ∨ l.length + s.size + 16 ≤ 140737488355328) (hB : B ≤ w.heap.size) (hs : s.size ≤ maxLen) :
    Calls Try.prog 63 #[v, .string s] w fun e w' => e = .returned (.tuple #[]) ∧ WAt 99 B v (l ++ (num 8 s.size ++ s.data.toList)) w' ∧ Below B w w' := by
  have HN : Hid (∀ w : World, Calls Try.prog 69 #[.string s] w fun e w' => e = .returned (.string (numB 8 s.size)) ∧ Below w.heap.size w w') := fun w => count8_any s w hs
  have hz := numB_size 8 s.size
  have he := numB_list 8 s.size
  rw [← he, ← List.append_assoc]
  generalize numB 8 s.size = t at HN hz
  clear he
  have hl1 : v = .pointer none ∨ l.length + t.size ≤ 140737488355328 := hl.imp id (fun x => by omega)
  have hl2 : v = .pointer none ∨ (l ++ t.data.toList).length + s.size ≤ 140737488355328 := hl.imp id (fun x => by simp only [List.length_append, Array.length_toList]; show l.length + t.size + s.size ≤ _; omega)
  clear hl
  go_enter Try.func63, Try.ntmps63
  go_wp2_with (go_at_call 69; refine (HN.out _).mono ?_)
  rintro e w1 ⟨rfl, k1⟩
  have h1 := h.below k1
  have hB1 := Nat.le_trans hB k1.size
  go_wp2_with (go_at_call 67; refine (wbytes_any B v l t _ h1 hl1 hB1).mono ?_)
  rintro e w2 ⟨rfl, h2, k2⟩
  have hB2 := Nat.le_trans hB1 k2.size
  go_wp2_with (go_at_call 67; refine (wbytes_any B v _ s _ h2 hl2 hB2).mono ?_)
  rintro e w3 ⟨rfl, h3, k3⟩
  go_wp2
  go_end0
  exact ⟨rfl, h3, ((k1.mono hB).trans k2).trans k3⟩
theorem size5 : (Try.prog.info? 5).map (·.size) = some 1 := by kernel_rfl
theorem zero32 : (Try.prog.info? 105).map (fun i => (i.zero, i.size)) = some (some (.agg (bcells zeros32)), 32) := by kernel_rfl
set_option maxHeartbeats 400000 in
theorem whash_any (B : Nat) (v : Value) (l : List UInt8) (s : ByteArray) (w : World) (h : WAt 99 B v l w) (hl : v = .pointer none ∨ l.length + 32 ≤ 140737488355328) (hB : B ≤ w.heap.size) :
    Calls Try.prog 64 #[v, .string s] w fun e w' => e = .returned (.tuple #[]) ∧ WAt 99 B v (l ++ pad s.data.toList) w' ∧ Below B w w' := by
  have hz := (zero_of_info zero32).1
  have HZ : Hid ((bcells zeros32).size = 32) := by rw [Hid, bcells_size]; rfl
  obtain ⟨m, hm⟩ : ∃ m, min s.size 32 = m := ⟨_, rfl⟩
  have HM : Hid (min s.size 32 = m ∧ m ≤ 32) := ⟨hm, by omega⟩
  clear hm
  go_enter Try.func64, Try.ntmps64
  have hpn := pad_length s.data.toList
  have hp0 : pad s.data.toList ≠ [] := by intro x; rw [x] at hpn; simp at hpn
  have hpz : (⟨(pad s.data.toList).toArray⟩ : ByteArray).size = 32 := by show (pad s.data.toList).toArray.size = 32; rw [List.size_toArray, hpn]
  have HP : Hid (∀ W, (w.alloc (.cells (bcells zeros32) 105 (0, 0))).setRow w.heap.size (Lib.byteCells (s.data.toList.take m) ++ (bcells zeros32).toList.drop m).toArray = W → ByteRow.Has w.heap.size W (.slice (some ⟨w.heap.size, 0, none⟩) 32 32) (pad s.data.toList) ∧ Below w.heap.size w W) := fun W hW => pad_world HM.out.1 hW
  clear hpn
  generalize pad s.data.toList = P at hp0 hpz HP
  have hl2 : v = .pointer none ∨ l.length + (⟨P.toArray⟩ : ByteArray).size ≤ 140737488355328 := hl.imp id (fun x => by rw [hpz]; exact x)
  clear hl hpz
  go_wp2_with (first
    | (refine wpList_copy_row_min rfl _ _ 42 9 rfl 5 underB size5 w.heap.size 32 32 m s rfl rfl (bcells zeros32) 105 (heap_alloc_new _ _) HM.out.1 (by rw [HZ.out]; exact HM.out.2) ?_
       generalize hW : World.setRow _ _ _ = W
       have HW : Hid (ByteRow.Has w.heap.size W (.slice (some ⟨w.heap.size, 0, none⟩) 32 32) P ∧ Below w.heap.size w W) := HP.out W hW
       clear hW)
    | (refine ByteRow.to_string _ rfl 42 9 5 _ rfl P rfl HW.out.1 hp0 underB under5 under9 ?_))
  have h1 := h.below HW.out.2
  have hB1 := Nat.le_trans hB HW.out.2.size
  refine (wbytes_any B v l ⟨P.toArray⟩ _ h1 hl2 hB1).mono ?_
  rintro e w2 ⟨rfl, h2, k2⟩
  go_wp2
  go_end0
  exact ⟨rfl, h2, (HW.out.2.mono hB).trans k2⟩
set_option maxHeartbeats 400000 in
theorem wbool_any (B : Nat) (v : Value) (l : List UInt8) (x : Bool) (w : World) (h : WAt 99 B v l w) (hl : v = .pointer none ∨ l.length + 1 ≤ 140737488355328) (hB : B ≤ w.heap.size) :
    Calls Try.prog 62 #[v, .bool x] w fun e w' => e = .returned (.tuple #[]) ∧ WAt 99 B v (l ++ [if x then 121 else 110]) w' ∧ Below B w w' := by
  cases x
  · go_enter Try.func62, Try.ntmps62
    go_wp2_with (go_at_call 67; refine (wbytes_any B v l ⟨#[110]⟩ _ h hl hB).mono ?_; rintro e w1 ⟨rfl, h1, k1⟩)
    go_end0
    exact ⟨rfl, by assumption, by assumption⟩
  · go_enter Try.func62, Try.ntmps62
    go_wp2_with (go_at_call 67; refine (wbytes_any B v l ⟨#[121]⟩ _ h hl hB).mono ?_; rintro e w1 ⟨rfl, h1, k1⟩)
    go_end0
    exact ⟨rfl, by assumption, by assumption⟩
end Go.Proofs.Ytdcgemaaohldmaa
