/- A ring of keys as it lies in memory; contracts of Len, Key, Tag and Check. -/
import Derived.Test.YtcfjlnceofdcdaaDoorMacOfAny
import Derived.Test.YtcfjlnceofdcdaaDoorStrs
namespace Go.Mac
open Go.RowKit
/-- The pointer v leads to a ring of the keys ks. -/
def RingAt (w : World) (v : Value) (ks : List ByteArray) : Prop :=
  ∃ b sv, v = .pointer (some ⟨b, 0, none⟩) ∧ w.cell? ⟨b, 0, none⟩ = some sv ∧ StrRow.Reads w sv ks
theorem RingAt.below {w w' : World} {v : Value} {ks : List ByteArray} (h : RingAt w v ks) {B : Nat} (hb : Below B w w') (hB : w.heap.size ≤ B) : RingAt w' v ks := by
  obtain ⟨b, sv, h1, h2, h3⟩ := h
  exact ⟨b, sv, h1, (hb.cell (p := ⟨b, 0, none⟩) (Nat.lt_of_lt_of_le (block_lt_of_cell h2) hB)).trans h2, h3.below hb hB⟩
end Go.Mac
namespace Go.Proofs.YtcfjlnceofdcdaaDoor
open Go.RowKit
open Go.Sort
set_option maxHeartbeats 400000 in
theorem len_any (v : Value) (ks : List ByteArray) (w : World) (h : Mac.RingAt w v ks) :
    Calls Tryd.prog 12 #[v] w fun e w' => e = .returned (.int .i64 ks.length) ∧ w' = w := by
  obtain ⟨b, sv, rfl, hc, hr⟩ := h
  obtain ⟨a, c, rfl⟩ := hr.form
  clear hr
  go_enter Tryd.func12, Tryd.ntmps12
  go_wp2
  go_ret
  exact ⟨rfl, rfl⟩
set_option maxHeartbeats 400000 in
theorem len_nil (w : World) :
    Calls Tryd.prog 12 #[.pointer none] w fun e w' => e = .returned (.int .i64 0) ∧ w' = w := by
  go_enter Tryd.func12, Tryd.ntmps12
  go_wp2
  go_ret
  exact ⟨rfl, rfl⟩
set_option maxHeartbeats 400000 in
theorem key_in (v : Value) (ks : List ByteArray) (i : Nat) (s : ByteArray) (w : World) (h : Mac.RingAt w v ks) (hi : ks[i]? = some s) :
    Calls Tryd.prog 13 #[v, .int .i64 i] w fun e w' => e = .returned (.tuple #[.string s, .bool true]) ∧ w' = w := by
  have HR : Hid (Mac.RingAt w v ks) := h
  have hlt : i < ks.length := (List.getElem?_eq_some_iff.1 hi).1
  obtain ⟨b, sv, rfl, hc, hr⟩ := h
  obtain ⟨g, off, cap, rfl, hcap, hlt2⟩ := hr.at (by intro e; rw [e] at hlt; simp at hlt)
  have hcell := hr.cell hi
  clear hr hi
  have hltI : (i : Int) < ks.length := by omega
  go_enter Tryd.func13, Tryd.ntmps13
  go_wp2_with (go_at_call 12; refine (len_any _ ks _ HR.out).mono ?_; rintro e w' ⟨rfl, rfl⟩)
  go_ret2
  exact ⟨rfl, rfl⟩
set_option maxHeartbeats 400000 in
theorem key_out (v : Value) (ks : List ByteArray) (i : Int) (w : World) (h : Mac.RingAt w v ks) (hi : i < 0 ∨ ks.length ≤ i) :
    Calls Tryd.prog 13 #[v, .int .i64 i] w fun e w' => e = .returned (.tuple #[.string ⟨#[]⟩, .bool false]) ∧ w' = w := by
  by_cases h0 : i < 0
  · go_enter Tryd.func13, Tryd.ntmps13
    go_wp2
    go_ret2
    exact ⟨rfl, rfl⟩
  · have h1 : (ks.length : Int) ≤ i := by omega
    go_enter Tryd.func13, Tryd.ntmps13
    go_wp2_with (go_at_call 12; refine (len_any _ ks _ h).mono ?_; rintro e w' ⟨rfl, rfl⟩)
    go_ret2
    exact ⟨rfl, rfl⟩
set_option maxHeartbeats 400000 in
theorem tag_in (v : Value) (ks : List ByteArray) (i : Nat) (k s : ByteArray) (w : World) (h : Mac.RingAt w v ks) (hi : ks[i]? = some k) (hk : k.size ≤ 1000000) (hs : s.size ≤ 900000) (hst : Steps w) :
    Calls Tryd.prog 14 #[v, .int .i64 i, .string s] w fun e w' => e = .returned (.tuple #[.string ⟨(Sha.tag k.data.toList s.data.toList).toArray⟩, .int .i64 0]) ∧ Below w.heap.size w w' := by
  go_enter Tryd.func14, Tryd.ntmps14
  go_wp2_with fail
  refine (key_in v ks i k w h hi).mono ?_
  rintro e w1 ⟨rfl, rfl⟩
  clear hi h
  go_wp2_with fail
  refine (of_any k s _ hk hs hst).mono ?_
  clear hst
  rintro e w2 ⟨rfl, hb⟩
  go_wp2
  go_ret2
  exact ⟨rfl, hb⟩
set_option maxHeartbeats 400000 in
theorem tag_out (v : Value) (ks : List ByteArray) (i : Int) (s : ByteArray) (w : World) (h : Mac.RingAt w v ks) (hi : i < 0 ∨ ks.length ≤ i) :
    Calls Tryd.prog 14 #[v, .int .i64 i, .string s] w fun e w' => e = .returned (.tuple #[.string ⟨#[]⟩, .int .i64 2]) ∧ w' = w := by
  go_enter Tryd.func14, Tryd.ntmps14
  go_wp2_with fail
  refine (key_out v ks i w h hi).mono ?_
  rintro e w1 ⟨rfl, rfl⟩
  clear hi h
  go_wp2
  go_ret2
  exact ⟨rfl, rfl⟩
set_option maxHeartbeats 400000 in
theorem check_in (v : Value) (ks : List ByteArray) (i : Nat) (k s t : ByteArray) (w : World) (h : Mac.RingAt w v ks) (hi : ks[i]? = some k) (hk : k.size ≤ 1000000) (hs : s.size ≤ 900000) (hst : Steps w) :
    Calls Tryd.prog 15 #[v, .int .i64 i, .string s, .string t] w fun e w' => e = .returned (.bool (decide (t.data.toList = Sha.tag k.data.toList s.data.toList))) ∧ Below w.heap.size w w' := by
  go_enter Tryd.func15, Tryd.ntmps15
  go_wp2_with fail
  refine (tag_in v ks i k s w h hi hk hs hst).mono ?_
  clear hi h hst
  rintro e w1 ⟨rfl, hb⟩
  obtain ⟨r, hr⟩ : ∃ r : ByteArray, r = ⟨(Sha.tag k.data.toList s.data.toList).toArray⟩ := ⟨_, rfl⟩
  rw [← hr]
  have hsz : r.size ≤ 1000000 := by rw [hr, MacW.size, Sha.tag_length]; omega
  have hdec : decide (r = t) = decide (t.data.toList = Sha.tag k.data.toList s.data.toList) := by
    refine decide_eq_decide.2 ?_
    rw [← Sha.ba_list, hr]
    exact ⟨fun e => e.symm, fun e => e.symm⟩
  have HD : Hid (decide (r = t) = decide (t.data.toList = Sha.tag k.data.toList s.data.toList)) := hdec
  have HB : Hid (Below w.heap.size w w1) := hb
  clear hr hdec hb
  go_wp2_with (go_at_call 22; refine (same_any r t _ hsz).mono ?_; rintro e w2 ⟨rfl, n2, rfl⟩)
  go_ret
  exact ⟨by rw [← HD.out]; rfl, below_drewN HB.out n2⟩
set_option maxHeartbeats 400000 in
theorem check_out (v : Value) (ks : List ByteArray) (i : Int) (s t : ByteArray) (w : World) (h : Mac.RingAt w v ks) (hi : i < 0 ∨ ks.length ≤ i) :
    Calls Tryd.prog 15 #[v, .int .i64 i, .string s, .string t] w fun e w' => e = .returned (.bool false) ∧ w' = w := by
  go_enter Tryd.func15, Tryd.ntmps15
  go_wp2_with fail
  refine (tag_out v ks i s w h hi).mono ?_
  clear hi h
  rintro e w1 ⟨rfl, rfl⟩
  go_wp2
  go_ret
  exact ⟨rfl, rfl⟩
end Go.Proofs.YtcfjlnceofdcdaaDoor
