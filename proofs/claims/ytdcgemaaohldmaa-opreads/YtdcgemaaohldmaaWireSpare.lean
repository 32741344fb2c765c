/- The writer's contracts once more, with what they leave alone: all blocks but the writer's own that are no rows of bytes. -/
import Derived.Test.YtdcgemaaohldmaaWireWriter
namespace Go.Wire
open Go.RowKit
/-- What was there below B stands, and all else that is no row of bytes, but for the writer v itself. -/
structure Wrote (B : Nat) (v : Value) (w w' : World) : Prop where
  below : Below B w w'
  spare : ∀ k c T fr, v ≠ .pointer (some ⟨k, 0, none⟩) → T ≠ 5 → w.heap[k]? = some (.cells c T fr) → w'.heap[k]? = w.heap[k]?
theorem Wrote.refl (B : Nat) (v : Value) (w : World) : Wrote B v w w := ⟨Below.refl _ _, fun _ _ _ _ _ _ _ => rfl⟩
theorem Wrote.of {B : Nat} {v : Value} {w w' : World} (h : Below w.heap.size w w') (hB : B ≤ w.heap.size) : Wrote B v w w' := ⟨h.mono hB, fun k _ _ _ _ _ hc => h.block k (row_lt hc)⟩
theorem Wrote.trans {B : Nat} {v : Value} {w w1 w2 : World} (h : Wrote B v w w1) (k : Wrote B v w1 w2) : Wrote B v w w2 :=
  ⟨h.below.trans k.below, fun j c T fr hj hT hc => (k.spare j c T fr hj hT ((h.spare j c T fr hj hT hc).trans hc)).trans (h.spare j c T fr hj hT hc)⟩
theorem Wrote.set {B b : Nat} {w : World} (hB : B ≤ b) (i : Nat) (x : Value) : Wrote B (.pointer (some ⟨b, 0, none⟩)) w (w.setCell ⟨b, i, none⟩ x) :=
  ⟨(Below.refl B w).setCell (p := ⟨b, i, none⟩) hB _, fun k _ _ _ hk _ _ => Below.heap_setCell _ ⟨b, i, none⟩ _ k (fun e => hk (by rw [e]))⟩
theorem Wrote.row {B k : Nat} {v : Value} {w w' : World} {c : Array Value} {T : TypeId} {fr : Nat × Nat} (h : Wrote B v w w') (hk : v ≠ .pointer (some ⟨k, 0, none⟩)) (hT : T ≠ 5) (hc : w.heap[k]? = some (.cells c T fr)) : w'.heap[k]? = some (.cells c T fr) := (h.spare k c T fr hk hT hc).trans hc
theorem own_tag {w : World} {B n k : Nat} {v : Value} {xs : List Value} {c : Array Value} {T : TypeId} {fr : Nat × Nat} (h : w.ownsRow B 5 1 v n xs) (e : v.ownBlock = some k) (hc : w.heap[k]? = some (.cells c T fr)) : T = 5 := by
  rcases h.2 with ⟨rfl, _⟩ | ⟨g, cap, cur, rfl, _, hg, _⟩
  · cases e
  · obtain rfl : g = k := by simpa [Value.ownBlock] using e
    rw [hg] at hc
    simp only [Option.some.injEq, Obj.cells.injEq] at hc
    exact hc.2.1.symm
end Go.Wire
namespace Go.Proofs.Ytdcgemaaohldmaa
open Go.RowKit Go.Wire
theorem copyCheck_sp (B b : Nat) (l : List UInt8) (w : World) (h : Wr 99 B b l w) :
    Calls Try.prog 71 #[.pointer (some ⟨b, 0, none⟩)] w fun e w' => e = .returned (.tuple #[]) ∧ (∃ v, w'.heap[b]? = some (.cells #[.pointer (some ⟨b, 0, none⟩), v] 99 (0, 0)) ∧ w'.ownsRow B 5 1 v l.length (Lib.byteCells l) ∧ v.ownBlock ≠ some b ∧ (l = [] → v = .slice none 0 0)) ∧ Wrote B (.pointer (some ⟨b, 0, none⟩)) w w' := by
  obtain ⟨hB, p, v, hp, hb, ho, hn, he⟩ := h
  have hat : Lib.BuilderAt 99 5 B b p (Lib.byteCells l) w := ⟨hB, v, hb, by rw [Lib.byteCells_length]; exact ho, hn⟩
  rcases hp with rfl | rfl
  · refine (copyCheck_fresh b w hat.cell0 hat.shape hat.frozen0).mono ?_
    rintro e w' ⟨rfl, rfl⟩
    have hb' : (w.setCell ⟨b, 0, none⟩ (.pointer (some ⟨b, 0, none⟩))).heap[b]? = some (.cells #[.pointer (some ⟨b, 0, none⟩), v] 99 (0, 0)) := by rw [heap_setCell_same _ _ _ _ _ _ hb]; rfl
    obtain ⟨-, v', h1, h2, h3⟩ := hat.used (.pointer (some ⟨b, 0, none⟩))
    rw [hb'] at h1
    obtain rfl : v = v' := by simpa using h1
    rw [Lib.byteCells_length] at h2
    exact ⟨rfl, ⟨v, hb', h2, h3, he⟩, Wrote.set hB 0 _⟩
  · refine (copyCheck_used b w hat.cell0).mono ?_
    rintro e w' ⟨rfl, rfl⟩
    exact ⟨rfl, ⟨v, hb, ho, hn, he⟩, Wrote.refl _ _ _⟩
set_option maxHeartbeats 2000000 in
set_option maxRecDepth 100000 in
theorem writeString_sp (B b : Nat) (l : List UInt8) (s : ByteArray) (w : World) (h : Wr 99 B b l w) (hlen : l.length + s.size ≤ 140737488355328) (hBw : B ≤ w.heap.size) :
    Calls Try.prog 70 #[.pointer (some ⟨b, 0, none⟩), .string s] w fun e w' => e = .returned (.tuple #[.int .i64 s.size, .nilIface]) ∧ Wr 99 B b (l ++ s.data.toList) w' ∧ Wrote B (.pointer (some ⟨b, 0, none⟩)) w w' := by
  have hB := h.1
  obtain ⟨i0, hi, hz0, hz1, hz2⟩ := info_parts info5
  go_enter Try.func70, Try.ntmps70
  go_wp2_with (go_at_call 71; refine (copyCheck_sp B b l _ h).mono ?_)
  rintro e w1 ⟨rfl, ⟨v, hbk, hown, hne, hnil⟩, hb1⟩
  have c0 : w1.cell? ⟨b, 0, none⟩ = some (.pointer (some ⟨b, 0, none⟩)) := by rw [Lib.cell_of_heap hbk]; rfl
  have c1 : w1.cell? ⟨b, 1, none⟩ = some v := by rw [Lib.cell_of_heap hbk]; rfl
  go_wp2_with (at_builtin; refine Lib.wpList_append_own_string _ rfl _ _ 42 9 rfl B 5 i0 underB under9 hi hz0 hz1 hz2 _ _ _ rfl hown s rfl ?c3 ?c4 ?c5 ?_)
  case c3 => unfold maxLen; omega
  case c4 => omega
  case c5 => have := hb1.below.size; omega
  intro v' w2 hown' hgrow hiff
  have hlt : b < w1.heap.size := by
    rcases Nat.lt_or_ge b w1.heap.size with h' | h'
    · exact h'
    · simp [Array.getElem?_eq_none h'] at hbk
  have hb2 : w2.heap[b]? = some (.cells #[.pointer (some ⟨b, 0, none⟩), v] 99 (0, 0)) := by
    rw [hgrow.block b hlt (fun e => hne e.symm)]
    exact hbk
  have d0 : w2.cell? ⟨b, 0, none⟩ = some (.pointer (some ⟨b, 0, none⟩)) := by rw [Lib.cell_of_heap hb2]; rfl
  have d1 : w2.cell? ⟨b, 1, none⟩ = some v := by rw [Lib.cell_of_heap hb2]; rfl
  have f1 : w2.frozen? ⟨b, 1, none⟩ = false := Lib.frozen_of_heap hb2 1
  have HI : Hid (v' = .slice none 0 0 ↔ v = .slice none 0 0 ∧ s = ByteArray.empty) := hiff
  have HV : Hid (l = [] → v = .slice none 0 0) := hnil
  clear hiff hnil
  obtain ⟨ao, n', cap, rfl⟩ : ∃ ao n' cap, v' = .slice ao n' cap := by
    rcases hown'.2 with ⟨hv, _⟩ | ⟨g, cap, cur, hv, _⟩
    · exact ⟨_, _, _, hv⟩
    · exact ⟨_, _, _, hv⟩
  go_wp2
  go_ret2
  refine ⟨rfl, ?_, ?_⟩
  · obtain ⟨-, v2, h1, h2, h3⟩ := Lib.BuilderAt.put (T := 99) (e := 5) hB hb2 (v' := .slice ao n' cap) (bs' := Lib.byteCells (l ++ s.data.toList)) (by rw [Lib.byteCells_length, List.length_append, Lib.byteCells_append]; exact hown') neB5
    have hb3 : (w2.setCell ⟨b, 1, none⟩ (.slice ao n' cap)).heap[b]? = some (.cells #[.pointer (some ⟨b, 0, none⟩), .slice ao n' cap] 99 (0, 0)) := by rw [heap_setCell_same _ _ _ _ _ _ hb2]; rfl
    rw [hb3] at h1
    obtain rfl : Value.slice ao n' cap = v2 := by simpa using h1
    rw [Lib.byteCells_length] at h2
    refine ⟨hB, _, _, .inr rfl, hb3, h2, h3, fun h0 => ?_⟩
    obtain ⟨ha, hs0⟩ := List.append_eq_nil_iff.1 h0
    exact HI.out.2 ⟨HV.out ha, ByteArray.ext (Array.toList_inj.1 hs0)⟩
  · refine ⟨(hb1.below.grown hgrow (by have := hb1.below.size; omega) (fun k hk => (hown.lt k hk).1)).setCell (p := ⟨b, 1, none⟩) hB _, fun k c T fr hk hT hc => ?_⟩
    have hk1 := hb1.spare k c T fr hk hT hc
    have hkb : k ≠ b := fun e => hk (by rw [e])
    rw [Below.heap_setCell _ ⟨b, 1, none⟩ _ k hkb, hgrow.block k (row_lt (hk1.trans hc)) (fun e => hT (own_tag hown e.symm (hk1.trans hc))), hk1]
set_option maxHeartbeats 400000 in
theorem wbytes_sp (B : Nat) (v : Value) (l : List UInt8) (s : ByteArray) (w : World) (h : WAt 99 B v l w) (hl : v = .pointer none ∨ l.length + s.size ≤ 140737488355328) (hB : B ≤ w.heap.size) :
    Calls Try.prog 67 #[v, .string s] w fun e w' => e = .returned (.tuple #[]) ∧ WAt 99 B v (l ++ s.data.toList) w' ∧ Wrote B v w w' := by
  rcases h with rfl | ⟨b, rfl, hr⟩
  · go_enter Try.func67, Try.ntmps67
    go_wp2
    go_end0
    exact ⟨rfl, .inl rfl, Wrote.refl _ _ _⟩
  · have hl2 : l.length + s.size ≤ 140737488355328 := hl.resolve_left (by intro x; cases x)
    clear hl
    go_enter Try.func67, Try.ntmps67
    go_wp2_with (go_at_call 70; refine (writeString_sp B b l s _ hr hl2 hB).mono ?_; rintro e w1 ⟨rfl, h1, k1⟩)
    go_end0
    exact ⟨rfl, .inr ⟨b, rfl, by assumption⟩, by assumption⟩
set_option maxHeartbeats 400000 in
theorem wnumber_sp (B : Nat) (v : Value) (l : List UInt8) (n : Nat) (k : Int) (w : World) (h : WAt 99 B v l w) (hl : v = .pointer none ∨ l.length + 16 ≤ 140737488355328) (hB : B ≤ w.heap.size) (hn : n < 18446744073709551616) :
    Calls Try.prog 60 #[v, .int .u64 n, .int .i64 k] w fun e w' => e = .returned (.tuple #[]) ∧ WAt 99 B v (l ++ num (2 * (min (max k 0) 8).toNat) n) w' ∧ Wrote B v w w' := by
  have HN : Hid (∀ w : World, Calls Try.prog 68 #[.int .u64 n, .int .i64 k] w fun e w' => e = .returned (.string (numB (2 * (min (max k 0) 8).toNat) n)) ∧ Below w.heap.size w w') := fun w => number_any n k w hn
  have hz := numB_size (2 * (min (max k 0) 8).toNat) n
  have he := numB_list (2 * (min (max k 0) 8).toNat) n
  rw [← he]
  have hz2 : (numB (2 * (min (max k 0) 8).toNat) n).size ≤ 16 := by rw [hz]; omega
  generalize numB (2 * (min (max k 0) 8).toNat) n = t at HN hz2
  clear he hz
  have hl2 : v = .pointer none ∨ l.length + t.size ≤ 140737488355328 := hl.imp id (fun x => by omega)
  clear hl
  go_enter Try.func60, Try.ntmps60
  go_wp2_with (go_at_call 68; refine (HN.out _).mono ?_)
  rintro e w1 ⟨rfl, k1⟩
  have h1 := h.below k1
  have hB1 := Nat.le_trans hB k1.size
  go_wp2_with (go_at_call 67; refine (wbytes_sp B v l t _ h1 hl2 hB1).mono ?_)
  rintro e w2 ⟨rfl, h2, k2⟩
  go_wp2
  go_end0
  exact ⟨rfl, h2, (Wrote.of k1 hB).trans k2⟩
set_option maxHeartbeats 400000 in
theorem wcount_sp (B : Nat) (v : Value) (l : List UInt8) (k : Int) (w : World) (h : WAt 99 B v l w) (hl : v = .pointer none ∨ l.length + 16 ≤ 140737488355328) (hB : B ≤ w.heap.size) (hk : k ≤ 9223372036854775807) :
    Calls Try.prog 65 #[v, .int .i64 k] w fun e w' => e = .returned (.tuple #[]) ∧ WAt 99 B v (l ++ num 8 (max k 0).toNat) w' ∧ Wrote B v w w' := by
  have HN : Hid (∀ n : Nat, n < 18446744073709551616 → Calls Try.prog 60 #[v, .int .u64 n, .int .i64 4] w fun e w' => e = .returned (.tuple #[]) ∧ WAt 99 B v (l ++ num 8 n) w' ∧ Wrote B v w w') := fun n hn => wnumber_sp B v l n 4 w h hl hB hn
  clear h hl hB
  by_cases h0 : k < 0
  · rw [show (max k 0).toNat = 0 by omega]
    go_enter Try.func65, Try.ntmps65
    go_wp2_with (go_at_call 60; refine (HN.out 0 (by decide)).mono ?_; rintro e w1 ⟨rfl, h1, k1⟩)
    go_end0
    exact ⟨rfl, by assumption, by assumption⟩
  · obtain ⟨n, rfl⟩ : ∃ n : Nat, k = n := ⟨k.toNat, by omega⟩
    rw [show (max (n : Int) 0).toNat = n by omega]
    go_enter Try.func65, Try.ntmps65
    go_wp2_with (go_at_call 60; refine (HN.out n (by omega)).mono ?_; rintro e w1 ⟨rfl, h1, k1⟩)
    go_end0
    exact ⟨rfl, by assumption, by assumption⟩
set_option maxHeartbeats 400000 in
theorem wtext_sp (B : Nat) (v : Value) (l : List UInt8) (s : ByteArray) (w : World) (h : WAt 99 B v l w) (hl : v = .pointer none ∨ l.length + s.size + 16 ≤ 140737488355328) (hB : B ≤ w.heap.size) (hs : s.size ≤ maxLen) :
    Calls Try.prog 63 #[v, .string s] w fun e w' => e = .returned (.tuple #[]) ∧ WAt 99 B v (l ++ (num 8 s.size ++ s.data.toList)) w' ∧ Wrote B v w w' := by
  have HN : Hid (∀ w : World, Calls Try.prog 69 #[.string s] w fun e w' => e = .returned (.string (numB 8 s.size)) ∧ Below w.heap.size w w') := fun w => count8_any s w hs
  have hz := numB_size 8 s.size
  have he := numB_list 8 s.size
  rw [← he, ← List.append_assoc]
  generalize numB 8 s.size = t at HN hz
  clear he
  have hl1 : v = .pointer none ∨ l.length + t.size ≤ 140737488355328 := hl.imp id (fun x => by omega)
  have hl2 : v = .pointer none ∨ (l ++ t.data.toList).length + s.size ≤ 140737488355328 := hl.imp id (fun x => by simp only [List.length_append, Array.length_toList]; show l.length + t.size + s.size ≤ _; omega)
  clear hl
  go_enter Try.func63, Try.ntmps63
  go_wp2_with (go_at_call 69; refine (HN.out _).mono ?_)
  rintro e w1 ⟨rfl, k1⟩
  have h1 := h.below k1
  have hB1 := Nat.le_trans hB k1.size
  go_wp2_with (go_at_call 67; refine (wbytes_sp B v l t _ h1 hl1 hB1).mono ?_)
  rintro e w2 ⟨rfl, h2, k2⟩
  have hB2 := Nat.le_trans hB1 k2.below.size
  go_wp2_with (go_at_call 67; refine (wbytes_sp B v _ s _ h2 hl2 hB2).mono ?_)
  rintro e w3 ⟨rfl, h3, k3⟩
  go_wp2
  go_end0
  exact ⟨rfl, h3, ((Wrote.of k1 hB).trans k2).trans k3⟩
theorem size5' : (Try.prog.info? 5).map (·.size) = some 1 := by kernel_rfl
theorem zero32' : (Try.prog.info? 105).map (fun i => (i.zero, i.size)) = some (some (.agg (bcells zeros32)), 32) := by kernel_rfl
set_option maxHeartbeats 400000 in
theorem whash_sp (B : Nat) (v : Value) (l : List UInt8) (s : ByteArray) (w : World) (h : WAt 99 B v l w) (hl : v = .pointer none ∨ l.length + 32 ≤ 140737488355328) (hB : B ≤ w.heap.size) :
    Calls Try.prog 64 #[v, .string s] w fun e w' => e = .returned (.tuple #[]) ∧ WAt 99 B v (l ++ pad s.data.toList) w' ∧ Wrote B v w w' := by
  have hz := (zero_of_info zero32').1
  have HZ : Hid ((bcells zeros32).size = 32) := by rw [Hid, bcells_size]; rfl
  obtain ⟨m, hm⟩ : ∃ m, min s.size 32 = m := ⟨_, rfl⟩
  have HM : Hid (min s.size 32 = m ∧ m ≤ 32) := ⟨hm, by omega⟩
  clear hm
  go_enter Try.func64, Try.ntmps64
  have hpn := pad_length s.data.toList
  have hp0 : pad s.data.toList ≠ [] := by intro x; rw [x] at hpn; simp at hpn
  have hpz : (⟨(pad s.data.toList).toArray⟩ : ByteArray).size = 32 := by show (pad s.data.toList).toArray.size = 32; rw [List.size_toArray, hpn]
  have HP : Hid (∀ W, (w.alloc (.cells (bcells zeros32) 105 (0, 0))).setRow w.heap.size (Lib.byteCells (s.data.toList.take m) ++ (bcells zeros32).toList.drop m).toArray = W → ByteRow.Has w.heap.size W (.slice (some ⟨w.heap.size, 0, none⟩) 32 32) (pad s.data.toList) ∧ Below w.heap.size w W) := fun W hW => pad_world HM.out.1 hW
  clear hpn
  generalize pad s.data.toList = P at hp0 hpz HP
  have hl2 : v = .pointer none ∨ l.length + (⟨P.toArray⟩ : ByteArray).size ≤ 140737488355328 := hl.imp id (fun x => by rw [hpz]; exact x)
  clear hl hpz
  go_wp2_with (first
    | (refine wpList_copy_row_min rfl _ _ 42 9 rfl 5 underB size5' w.heap.size 32 32 m s rfl rfl (bcells zeros32) 105 (heap_alloc_new _ _) HM.out.1 (by rw [HZ.out]; exact HM.out.2) ?_
       generalize hW : World.setRow _ _ _ = W
       have HW : Hid (ByteRow.Has w.heap.size W (.slice (some ⟨w.heap.size, 0, none⟩) 32 32) P ∧ Below w.heap.size w W) := HP.out W hW
       clear hW)
    | (refine ByteRow.to_string _ rfl 42 9 5 _ rfl P rfl HW.out.1 hp0 underB under5 under9 ?_))
  have h1 := h.below HW.out.2
  have hB1 := Nat.le_trans hB HW.out.2.size
  refine (wbytes_sp B v l ⟨P.toArray⟩ _ h1 hl2 hB1).mono ?_
  rintro e w2 ⟨rfl, h2, k2⟩
  go_wp2
  go_end0
  exact ⟨rfl, h2, (Wrote.of HW.out.2 hB).trans k2⟩
set_option maxHeartbeats 400000 in
theorem wbool_sp (B : Nat) (v : Value) (l : List UInt8) (x : Bool) (w : World) (h : WAt 99 B v l w) (hl : v = .pointer none ∨ l.length + 1 ≤ 140737488355328) (hB : B ≤ w.heap.size) :
    Calls Try.prog 62 #[v, .bool x] w fun e w' => e = .returned (.tuple #[]) ∧ WAt 99 B v (l ++ [if x then 121 else 110]) w' ∧ Wrote B v w w' := by
  cases x
  · go_enter Try.func62, Try.ntmps62
    go_wp2_with (go_at_call 67; refine (wbytes_sp B v l ⟨#[110]⟩ _ h hl hB).mono ?_; rintro e w1 ⟨rfl, h1, k1⟩)
    go_end0
    exact ⟨rfl, by assumption, by assumption⟩
  · go_enter Try.func62, Try.ntmps62
    go_wp2_with (go_at_call 67; refine (wbytes_sp B v l ⟨#[121]⟩ _ h hl hB).mono ?_; rintro e w1 ⟨rfl, h1, k1⟩)
    go_end0
    exact ⟨rfl, by assumption, by assumption⟩
end Go.Proofs.Ytdcgemaaohldmaa
