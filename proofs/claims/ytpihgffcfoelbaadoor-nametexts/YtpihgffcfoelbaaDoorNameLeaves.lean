/- Contracts: a byte that may stand, a text that may be a name: the program's and the document's. -/
import Derived.Test.YtpihgffcfoelbaaDoorNameMath
import Derived.Test.YtpihgffcfoelbaaDoorNameShelf
import Derived.Test.YtpihgffcfoelbaaDoorStrs
namespace Go.Names
theorem index_has (l : Bs) (c : UInt8) : (0 ≤ Lib.indexByte l c) ↔ c ∈ l := by
  induction l with
  | nil => simp [Lib.indexByte]
  | cons b l ih =>
    have := Lib.indexByte_ge l c
    unfold Lib.indexByte
    by_cases h : b = c
    · subst h; simp
    · have h' : (b == c) = false := by simpa using h
      simp only [h', Bool.false_eq_true, if_false, List.mem_cons, ← ih]
      have h2 : ¬ c = b := fun e => h e.symm
      simp only [h2, false_or]
      by_cases h3 : Lib.indexByte l c = -1
      · simp [h3]
      · have h4 : (Lib.indexByte l c == -1) = false := by simpa using h3
        simp only [h4, Bool.false_eq_true, if_false]
        omega
theorem okB_bad {c : UInt8} (h1 : 33 ≤ c.toNat) (h2 : c.toNat ≤ 126) : okB c = !bad.contains c := by simp [okB, h1, h2]
theorem okB_lo {c : UInt8} (h1 : c.toNat < 33) : okB c = false := by simp [okB]; omega
theorem okB_hi {c : UInt8} (h1 : 126 < c.toNat) : okB c = false := by simp [okB]; omega
theorem toByte (c : UInt8) : ((c.toNat : Int)).toNat.toUInt8 = c := by simp
end Go.Names
namespace Go.Proofs.YtpihgffcfoelbaaDoor
open Go.RowKit Go.Shelf Go.Names
theorem hide {p : Prop} (h : p) : Hid p := h
set_option maxRecDepth 100000 in
set_option maxHeartbeats 1000000 in
theorem stands_any (c : UInt8) (w : World) :
    Calls Tryd.prog 22 #[.int .u8 (c.toNat : Int)] w fun e w' => e = .returned (.bool (okB c)) ∧ w' = w := by
  by_cases h1 : c.toNat < 33
  · have h1' : (c.toNat : Int) < 33 := by omega
    rw [okB_lo h1]
    go_enter Tryd.func22, Tryd.ntmps22
    go_wp2
    go_ret
    exact ⟨rfl, rfl⟩
  · have h1' : ¬ (c.toNat : Int) < 33 := by omega
    by_cases h2 : 126 < c.toNat
    · have h2' : (126 : Int) < (c.toNat : Int) := by omega
      rw [okB_hi h2]
      go_enter Tryd.func22, Tryd.ntmps22
      go_wp2
      go_ret
      exact ⟨rfl, rfl⟩
    · have h2' : ¬ (126 : Int) < (c.toNat : Int) := by omega
      have hc := Any.strings_IndexByte indexByteL ⟨#[47, 92, 58, 42, 63, 34, 60, 62, 124]⟩ (c.toNat : Int) w
      rw [toByte] at hc
      have hi : (0 ≤ Lib.indexByte [47, 92, 58, 42, 63, 34, 60, 62, 124] c) ↔ c ∈ bad := index_has _ c
      rw [okB_bad (by omega) (by omega)]
      have hb : bad.contains c = decide (0 ≤ Lib.indexByte [47, 92, 58, 42, 63, 34, 60, 62, 124] c) := by
        by_cases h : c ∈ bad
        · rw [decide_eq_true (hi.2 h)]; simpa using h
        · rw [decide_eq_false (fun h3 => h (hi.1 h3))]; simpa using h
      rw [hb]
      clear hb hi
      change Calls _ _ _ _ (fun e w' => e = .returned (.int .i64 (Lib.indexByte [47, 92, 58, 42, 63, 34, 60, 62, 124] c)) ∧ w' = w) at hc
      generalize Lib.indexByte [47, 92, 58, 42, 63, 34, 60, 62, 124] c = i at hc
      by_cases h3 : 0 ≤ i
      · rw [decide_eq_true h3]
        go_enter Tryd.func22, Tryd.ntmps22
        go_wp2_with (go_at_call 30; refine hc.mono ?_; rintro e w1 ⟨rfl, rfl⟩)
        go_ret
        exact ⟨rfl, rfl⟩
      · rw [decide_eq_false h3]
        go_enter Tryd.func22, Tryd.ntmps22
        go_wp2_with (go_at_call 30; refine hc.mono ?_; rintro e w1 ⟨rfl, rfl⟩)
        go_ret
        exact ⟨rfl, rfl⟩
set_option maxRecDepth 100000 in
set_option maxHeartbeats 1000000 in
theorem fine_any (c : UInt8) (w : World) :
    Calls Tryd.prog 23 #[.int .u8 (c.toNat : Int)] w fun e w' => e = .returned (.bool (okB c)) ∧ w' = w := by
  by_cases h1 : c.toNat < 33
  · have h1' : (c.toNat : Int) ≤ 32 := by omega
    rw [okB_lo h1]
    go_enter Tryd.func23, Tryd.ntmps23
    go_wp2
    go_ret
    exact ⟨rfl, rfl⟩
  · have h1' : ¬ (c.toNat : Int) ≤ 32 := by omega
    by_cases h2 : 126 < c.toNat
    · have h2' : (127 : Int) ≤ (c.toNat : Int) := by omega
      rw [okB_hi h2]
      go_enter Tryd.func23, Tryd.ntmps23
      go_wp2
      go_ret
      exact ⟨rfl, rfl⟩
    · have h2' : ¬ (127 : Int) ≤ (c.toNat : Int) := by omega
      rw [okB_bad (by omega) (by omega)]
      generalize hR : (!bad.contains c) = R
      replace hR := hide hR
      go_enter Tryd.func23, Tryd.ntmps23
      go_wp2
      go_loop [4] (fun vi => ∃ k : Nat, k ≤ 9 ∧ vi = .int .i64 k ∧ Hid (c ∉ bad.take k)) (fun vi => 9 - (intOf vi).toNat)
      case atStart => exact ⟨0, by omega, rfl, by show c ∉ bad.take 0; simp⟩
      case round =>
        obtain ⟨k, hk, rfl, hn⟩ := hrel
        by_cases hlt : k < 9
        · have hb : bad[k]? = some ((⟨#[47, 92, 58, 42, 63, 34, 60, 62, 124]⟩ : ByteArray)[k]'hlt) := by
            have : ∀ k : Fin 9, bad[k.val]? = some ((⟨#[47, 92, 58, 42, 63, 34, 60, 62, 124]⟩ : ByteArray)[k.val]'k.isLt) := by decide
            exact this ⟨k, hlt⟩
          have hlt' : (k : Int) < 9 := by omega
          by_cases he : ((⟨#[47, 92, 58, 42, 63, 34, 60, 62, 124]⟩ : ByteArray)[k]'hlt) = c
          · have hc : bad.contains c = true := by
              rw [List.contains_iff_mem]
              rw [he] at hb
              exact List.mem_of_getElem? hb
            have he' : (((⟨#[47, 92, 58, 42, 63, 34, 60, 62, 124]⟩ : ByteArray)[k]'hlt).toNat : Int) = c.toNat := by rw [he]
            go_wp2
            go_ret
            exact ⟨by rw [← hR.out, hc]; rfl, rfl⟩
          · have he' : ¬ ((((⟨#[47, 92, 58, 42, 63, 34, 60, 62, 124]⟩ : ByteArray)[k]'hlt).toNat : Int) = c.toNat) := fun h => he (UInt8.toNat_inj.1 (by omega))
            go_wp2
            go_round
            case rel => exact ⟨k + 1, by omega, by go_num, by
              show c ∉ _
              rw [List.take_add_one, hb]
              intro hm
              rcases List.mem_append.1 hm with hm | hm
              · exact hn.out hm
              · exact he (by have h9 := List.mem_singleton.1 (show c ∈ [_] from hm); exact h9.symm)⟩
            case measure => simp [intOf]; omega
        · have hlt' : ¬ (k : Int) < 9 := by omega
          have hk9 : k = 9 := by omega
          subst hk9
          have hc : bad.contains c = false := by
            have := hn.out
            rw [List.take_of_length_le (by decide)] at this
            simpa using this
          go_wp2
          go_ret
          exact ⟨by rw [← hR.out, hc]; rfl, rfl⟩
theorem data_get (s : ByteArray) (k : Nat) (h : k < s.size) : s.data.toList[k]? = some s[k] := by
  rw [List.getElem?_eq_getElem (by simpa using h)]
  rfl
theorem all_take (s : ByteArray) (k : Nat) (h : k < s.size) (p : UInt8 → Bool) : (s.data.toList.take (k + 1)).all p = ((s.data.toList.take k).all p && p s[k]) := by
  rw [List.take_add_one, data_get s k h]
  simp
theorem last_get (s : ByteArray) (h : 0 < s.size) : s.data.toList.getLast? = some (s[s.size - 1]'(by omega)) := by
  rw [List.getLast?_eq_getElem?, Array.length_toList]
  exact data_get s (s.size - 1) (by omega)
theorem all_false {s : ByteArray} {k : Nat} (h : k < s.size) (hc : okB s[k] = false) : s.data.toList.all okB = false := by
  rw [List.all_eq_false]
  exact ⟨s[k], List.mem_of_getElem? (data_get s k h), by rw [hc]; decide⟩
theorem empty_no (s : ByteArray) (h : s.size ≠ 0) : s.toList.isEmpty = false := by
  rw [ByteArray.toList_eq, List.isEmpty_eq_false_iff]
  intro e
  have := congrArg List.length e
  rw [Array.length_toList] at this
  exact h this
theorem ne46 (c : UInt8) : ((c.toNat : Int) != 46) = (c != 46) := by
  by_cases h : c = 46
  · subst h; rfl
  · rw [bne_iff_ne.2 h, bne_iff_ne.2 (fun h2 => h (UInt8.toNat_inj.1 (by rw [show (46 : UInt8).toNat = 46 from rfl]; omega)))]
theorem legal_len {s : ByteArray} (h : s.size < 1 ∨ 32 < s.size) : legal s.data.toList = false := by
  unfold legal
  have : s.data.toList.length = s.size := by simp
  rw [this]
  rcases h with h | h
  · rw [decide_eq_false (by omega : ¬ 1 ≤ s.size)]; rfl
  · rw [decide_eq_false (by omega : ¬ s.size ≤ 32), Bool.and_false]; rfl
theorem legal_is {s : ByteArray} (h1 : 1 ≤ s.size) (h2 : s.size ≤ 32) : legal s.data.toList = (s.data.toList.all okB && (s[s.size - 1]'(by omega) != 46)) := by
  unfold legal endsWell
  have : s.data.toList.length = s.size := by simp
  rw [this, decide_eq_true h1, decide_eq_true h2, last_get s h1]
  simp only [Bool.true_and]
  generalize s[s.size - 1]'(by omega) = c
  by_cases h : c = 46
  · subst h; rfl
  · rw [bne_iff_ne.2 h, bne_iff_ne.2 (fun h2 => h (Option.some.inj h2))]
set_option maxRecDepth 100000 in
set_option maxHeartbeats 1000000 in
theorem legal_any (s : ByteArray) (w : World) (hs : s.size ≤ 1000000) :
    Calls Tryd.prog 11 #[.string s] w fun e w' => e = .returned (.bool (legal s.data.toList)) ∧ w' = w := by
  by_cases h1 : s.size < 1
  · have h1' : (s.size : Int) < 1 := by omega
    rw [legal_len (.inl h1)]
    go_enter Tryd.func11, Tryd.ntmps11
    go_wp2
    go_ret
    exact ⟨rfl, rfl⟩
  · have h1' : ¬ (s.size : Int) < 1 := by omega
    by_cases h2 : 32 < s.size
    · have h2' : (32 : Int) < (s.size : Int) := by omega
      rw [legal_len (.inr h2)]
      go_enter Tryd.func11, Tryd.ntmps11
      go_wp2
      go_ret
      exact ⟨rfl, rfl⟩
    · have h2' : ¬ (32 : Int) < (s.size : Int) := by omega
      have hlast : s.size - 1 < s.size := by omega
      rw [legal_is (by omega) (by omega)]
      generalize hR : (s.data.toList.all okB && (s[s.size - 1] != 46)) = R
      replace hR := hide hR
      go_enter Tryd.func11, Tryd.ntmps11
      go_wp2
      go_loop [14] (fun vi => ∃ k : Nat, k ≤ s.size ∧ vi = .int .i64 k ∧ Hid ((s.data.toList.take k).all okB = true)) (fun vi => s.size - (intOf vi).toNat)
      case atStart => exact ⟨0, by omega, rfl, by show _ = _; simp⟩
      case round =>
        obtain ⟨k, hk, rfl, hn⟩ := hrel
        by_cases hlt : k < s.size
        · have hlt' : (k : Int) < s.size := by omega
          have hst := stands_any s[k] w
          by_cases hc : okB s[k] = true
          · rw [hc] at hst
            go_wp2_with (go_at_call 22; refine hst.mono ?_; rintro e w1 ⟨rfl, rfl⟩)
            go_round
            case rel => exact ⟨k + 1, by omega, by go_num, by show _ = _; rw [all_take s k hlt, hn.out, hc]; rfl⟩
            case measure => simp [intOf]; omega
          · have hc' : okB s[k] = false := by simpa using hc
            rw [hc'] at hst
            go_wp2_with (go_at_call 22; refine hst.mono ?_; rintro e w1 ⟨rfl, rfl⟩)
            go_ret
            exact ⟨by rw [← hR.out, all_false hlt hc']; rfl, rfl⟩
        · have hlt' : ¬ (k : Int) < s.size := by omega
          have hks : k = s.size := by omega
          have hall : s.data.toList.all okB = true := by
            have := hn.out
            rwa [List.take_of_length_le (by simp; omega)] at this
          go_wp2
          go_ret
          exact ⟨by rw [← hR.out, hall, ← ne46]; rfl, rfl⟩
set_option maxRecDepth 100000 in
set_option maxHeartbeats 1000000 in
theorem rlegal_any (s : ByteArray) (w : World) (hs : s.size ≤ 1000000) :
    Calls Tryd.prog 12 #[.string s] w fun e w' => e = .returned (.bool (legal s.data.toList)) ∧ w' = w := by
  by_cases h1 : s.size < 1
  · have h1' : s = ⟨#[]⟩ := by
      obtain ⟨⟨l⟩⟩ := s
      have : l.length = 0 := by have h : (⟨⟨l⟩⟩ : ByteArray).size = l.length := rfl; omega
      rw [List.length_eq_zero_iff.1 this]
    subst h1'
    rw [legal_len (.inl h1)]
    go_enter Tryd.func12, Tryd.ntmps12
    go_wp2
    go_ret
    exact ⟨rfl, rfl⟩
  · have h1' : s.toList.isEmpty = false := empty_no s (by omega)
    by_cases h2 : 32 < s.size
    · have h2' : (32 : Int) < (s.size : Int) := by omega
      rw [legal_len (.inr h2)]
      go_enter Tryd.func12, Tryd.ntmps12
      go_wp2
      go_ret
      exact ⟨rfl, rfl⟩
    · have h2' : ¬ (32 : Int) < (s.size : Int) := by omega
      have hlast : s.size - 1 < s.size := by omega
      rw [legal_is (by omega) (by omega)]
      by_cases h3 : s[s.size - 1] = 46
      · have h3' : ((s[s.size - 1].toNat : Int) == 46) = true := by rw [h3]; decide
        have hne : (s[s.size - 1] != 46) = false := by rw [h3]; decide
        rw [hne, Bool.and_false]
        clear hne h3
        go_enter Tryd.func12, Tryd.ntmps12
        go_wp2
        go_ret
        exact ⟨rfl, rfl⟩
      · have h3' : ((s[s.size - 1].toNat : Int) == 46) = false := beq_eq_false_iff_ne.2 fun h => h3 (UInt8.toNat_inj.1 (by rw [show (46 : UInt8).toNat = 46 from rfl]; omega))
        have hne : (s[s.size - 1] != 46) = true := bne_iff_ne.2 h3
        rw [hne, Bool.and_true]
        clear hne
        generalize hR : s.data.toList.all okB = R
        replace hR := hide hR
        go_enter Tryd.func12, Tryd.ntmps12
        go_wp2
        go_loop [3] (fun vi => ∃ k : Nat, k ≤ s.size ∧ vi = .int .i64 k ∧ Hid ((s.data.toList.take k).all okB = true)) (fun vi => s.size - (intOf vi).toNat)
        case atStart => exact ⟨0, by omega, rfl, by show _ = _; simp⟩
        case round =>
          obtain ⟨k, hk, rfl, hn⟩ := hrel
          by_cases hlt : k < s.size
          · have hlt' : (k : Int) < s.size := by omega
            have hst := fine_any s[k] w
            by_cases hc : okB s[k] = true
            · rw [hc] at hst
              go_wp2_with (go_at_call 23; refine hst.mono ?_; rintro e w1 ⟨rfl, rfl⟩)
              go_round
              case rel => exact ⟨k + 1, by omega, by go_num, by show _ = _; rw [all_take s k hlt, hn.out, hc]; rfl⟩
              case measure => simp [intOf]; omega
            · have hc' : okB s[k] = false := by simpa using hc
              rw [hc'] at hst
              go_wp2_with (go_at_call 23; refine hst.mono ?_; rintro e w1 ⟨rfl, rfl⟩)
              go_ret
              exact ⟨by rw [← hR.out, all_false hlt hc']; rfl, rfl⟩
          · have hlt' : ¬ (k : Int) < s.size := by omega
            have hks : k = s.size := by omega
            have hall : s.data.toList.all okB = true := by
              have := hn.out
              rwa [List.take_of_length_le (by simp; omega)] at this
            go_wp2
            go_ret
            exact ⟨by rw [← hR.out, hall]; rfl, rfl⟩
end Go.Proofs.YtpihgffcfoelbaaDoor
