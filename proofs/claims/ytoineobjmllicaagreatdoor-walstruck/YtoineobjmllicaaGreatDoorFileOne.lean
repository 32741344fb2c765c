/- Several texts in one: WalFile. -/
import Derived.Test.YtoineobjmllicaaGreatDoorNamesOne
import Derived.Test.YtoineobjmllicaaGreatDoorShelfOne
import Derived.Test.YtoineobjmllicaaGreatDoorOpsOne
import Derived.Lib.LaidTab
import Derived.Lib.AtoiErrMem
/- Contracts: the name of a segment's file, and the number of a name. -/
namespace Go.Wal
open Go.RowKit Go.Dk
/-- What the package-level variables hold that the road reads. -/
structure VarsOf (P : Program) (s r n : Nat) (w : World) : Prop where
  tab : Lib.TabIs P w "internal/strconv.uint64pow10" .u64 Lib.pow10Tab
  syn : ∃ ev, w.cell? ⟨s, 0, none⟩ = some ev ∧ (ev = .nilIface ∨ ∃ te pe, ev = .iface te pe)
  rng : ∃ ev, w.cell? ⟨r, 0, none⟩ = some ev ∧ (ev = .nilIface ∨ ∃ te pe, ev = .iface te pe)
  size : n ≤ w.heap.size
theorem VarsOf.kept {P : Program} {s r n g : Nat} {w w' : World} (h : VarsOf P s r n w) (hg : P.globalNamed "internal/strconv.uint64pow10" = some g) (hs : s < n) (hr : r < n) (hgn : g < n) (hz : w.heap.size ≤ w'.heap.size) (hb : ∀ k, k < n → w'.heap[k]? = w.heap[k]?) : VarsOf P s r n w' := by
  obtain ⟨e1, h1, h1'⟩ := h.syn
  obtain ⟨e2, h2, h2'⟩ := h.rng
  refine ⟨?_, ⟨e1, (World.cell?_of_block (a := ⟨s, 0, none⟩) (hb s hs)).trans h1, h1'⟩, ⟨e2, (World.cell?_of_block (a := ⟨r, 0, none⟩) (hb r hr)).trans h2, h2'⟩, Nat.le_trans h.size hz⟩
  have ht := h.tab
  unfold Lib.TabIs World.var? at ht ⊢
  rw [hg] at ht ⊢
  simp only [Option.bind_some] at ht ⊢
  rw [hb g hgn]
  exact ht
theorem atoi_le {l : Bs} {v : Int} (h : Lib.atoiAll l = .ok v) : v ≤ 9223372036854775807 := by
  unfold Lib.atoiAll at h
  split at h
  · cases h
  · simp only at h
    split at h
    · cases h
    · cases h
    · split at h
      · cases h
      · split at h
        · cases h
        · injection h with h
          subst h
          split <;> omega
end Go.Wal
namespace Go.Proofs.YtoineobjmllicaaGreatDoor
open Go.RowKit Go.Dk Go.Wal
abbrev Vars (w : World) : Prop := VarsOf Tryz.prog 3 4 5 w
theorem gPow : Tryz.prog.globalNamed "internal/strconv.uint64pow10" = some 0 := by kernel_rfl
theorem Vars.below {w w' : World} (h : Vars w) (hb : Below w.heap.size w w') : Vars w' := VarsOf.kept h gPow (by decide) (by decide) (by decide) hb.size fun k hk => hb.block k (Nat.lt_of_lt_of_le hk h.size)
theorem Vars.dsk {M : Nat → Prop} {base : Nat} {w w' : World} (h : Vars w) (hb : Dsk M base w w') (h5 : 5 ≤ base) : Vars w' := VarsOf.kept h gPow (by decide) (by decide) (by decide) hb.size fun k hk => hb.block k (Nat.lt_of_lt_of_le hk h.size) (by rintro ⟨hge, _⟩; omega)
theorem grow_below {w : World} (k : Nat) (os : Array Obj) : Below w.heap.size w (Sort.grow (w.drewN k) os) := by
  refine ⟨rfl, rfl, rfl, ?_, fun j hj => ?_⟩
  · show w.heap.size ≤ (w.heap ++ os).size
    rw [Array.size_append]
    omega
  · show (w.heap ++ os)[j]? = w.heap[j]?
    rw [Array.getElem?_append_left hj]
theorem ba_append (a b : Bs) : (⟨a.toArray⟩ : ByteArray) ++ ⟨b.toArray⟩ = ⟨(a ++ b).toArray⟩ := by
  apply ByteArray.ext
  rw [ByteArray.data_append]
  simp
theorem ba_size (a : Bs) : (⟨a.toArray⟩ : ByteArray).size = a.length := by show a.toArray.size = _; simp
theorem fileName_any (n : Nat) (w : World) (hv : Vars w) (hn : n < 9223372036854775808) :
    Calls Tryz.prog 51 #[.int .i64 n] w fun e w' => e = .returned (.string ⟨(seg n).toArray⟩) ∧ Below w.heap.size w w' := by
  have HI : Hid (∀ w1, w1 = w → Calls Tryz.prog 32 #[.int .i64 n] w1 fun e w' => e = .returned (.string ⟨(Lib.decDigits n).toArray⟩) ∧ Below w.heap.size w w') := fun w1 h1 => by
    subst h1
    have := Any.strconv_Itoa itoaL (n : Int) (by omega) (by omega) w1 hv.tab
    rw [itoa_nat] at this
    refine this.mono ?_
    rintro e w' ⟨he, k, os, rfl⟩
    exact ⟨he, grow_below k os⟩
  have hl : (Lib.decDigits n).length ≤ 20 := dec_short n (by omega)
  go_enter Tryz.func51, Tryz.ntmps51
  go_wp2_with (go_at_call 32; refine (HI.out _ rfl).mono ?_; rintro e w1 ⟨rfl, k1⟩)
  go_ret
  exact ⟨by rw [show (⟨#[108, 111, 103, 46]⟩ : ByteArray) = ⟨logB.toArray⟩ from rfl, ba_append]; rfl, k1⟩
set_option maxHeartbeats 1000000 in
theorem segNumber_any (l : Bs) (w : World) (hv : Vars w) (hl : l.length ≤ 1000) :
    Calls Tryz.prog 96 #[.string ⟨l.toArray⟩] w fun e w' => e = .returned (.int .i64 (numOf l)) ∧ Below w.heap.size w w' := by
  have HT : Hid (∀ w1, Calls Tryz.prog 114 #[.string ⟨l.toArray⟩, .string ⟨#[108, 111, 103, 46]⟩] w1 fun e w' => e = .returned (.string ⟨(Lib.trimPrefix l logB).toArray⟩) ∧ w' = w1) := fun w1 => by
    have := Any.strings_TrimPrefix trimL ⟨l.toArray⟩ ⟨#[108, 111, 103, 46]⟩ w1
    simp only at this
    exact this
  have hsz : (⟨(Lib.trimPrefix l logB).toArray⟩ : ByteArray).size ≤ 1000 := by
    rw [ba_size]
    unfold Lib.trimPrefix
    split
    · rw [List.length_drop]; omega
    · exact hl
  cases h : Lib.atoiAll (Lib.trimPrefix l logB) with
  | ok v =>
    have HA : Hid (∀ w1, w1 = w → Calls Tryz.prog 113 #[.string ⟨(Lib.trimPrefix l logB).toArray⟩] w1 fun e w' => e = .returned (.tuple #[.int .i64 v, .nilIface]) ∧ Below w.heap.size w w') := fun w1 h1 => by
      subst h1
      refine (Any.strconv_Atoi_ok atoiL ⟨(Lib.trimPrefix l logB).toArray⟩ (by omega) v (by simpa using h) w1).mono ?_
      rintro e w' ⟨he, rfl | ⟨t, rfl⟩⟩
      · exact ⟨he, Below.refl _ _⟩
      · exact ⟨he, Lib.bytesWorld_below _ _ _⟩
    by_cases hv1 : v < 1
    · have hz : numOf l = 0 := by unfold numOf; rw [h]; simp only; rw [if_neg (by omega)]
      rw [hz]
      have hd : decide (v < 1) = true := decide_eq_true hv1
      go_enter Tryz.func96, Tryz.ntmps96
      go_wp2_with (first
        | (go_at_call 114; refine (HT.out _).mono ?_; rintro e w1 ⟨rfl, rfl⟩)
        | (go_at_call 113; refine (HA.out _ rfl).mono ?_; rintro e w2 ⟨rfl, k2⟩))
      go_ret
      exact ⟨rfl, k2⟩
    · obtain ⟨n, rfl⟩ := Int.eq_ofNat_of_zero_le (show 0 ≤ v by omega)
      have hn : n < 9223372036854775808 := by have := atoi_le h; omega
      have hd : decide ((n : Int) < 1) = false := decide_eq_false hv1
      have HF : Hid (∀ w1, Below w.heap.size w w1 → Calls Tryz.prog 51 #[.int .i64 n] w1 fun e w' => e = .returned (.string ⟨(seg n).toArray⟩) ∧ Below w.heap.size w w') := fun w1 h1 =>
        (fileName_any n w1 (Vars.below hv h1) hn).mono fun e w' ⟨he, hb⟩ => ⟨he, h1.trans (hb.mono h1.size)⟩
      have hz : numOf l = if seg n = l then n else 0 := by
        unfold numOf
        rw [h]
        simp only
        rw [itoa_nat]
        by_cases hs : seg n = l
        · rw [if_pos hs, if_pos ⟨by omega, hs⟩]; simp
        · rw [if_neg hs, if_neg (fun x => hs x.2)]
      rw [hz]
      by_cases hs : seg n = l
      · rw [if_pos hs]
        go_enter Tryz.func96, Tryz.ntmps96
        go_wp2_with (first
          | (go_at_call 114; refine (HT.out _).mono ?_; rintro e w1 ⟨rfl, rfl⟩)
          | (go_at_call 113; refine (HA.out _ rfl).mono ?_; rintro e w2 ⟨rfl, k2⟩)
          | (go_at_call 51; refine (HF.out _ k2).mono ?_; rintro e w3 ⟨rfl, k3⟩))
        go_ret
        exact ⟨rfl, k3⟩
      · rw [if_neg hs]
        have hsb : (seg n == l) = false := by simpa using hs
        go_enter Tryz.func96, Tryz.ntmps96
        go_wp2_with (first
          | (go_at_call 114; refine (HT.out _).mono ?_; rintro e w1 ⟨rfl, rfl⟩)
          | (go_at_call 113; refine (HA.out _ rfl).mono ?_; rintro e w2 ⟨rfl, k2⟩)
          | (go_at_call 51; refine (HF.out _ k2).mono ?_; rintro e w3 ⟨rfl, k3⟩))
        go_ret
        exact ⟨rfl, k3⟩
  | «syntax» =>
    obtain ⟨ev, hev1, hev2⟩ := hv.syn
    have HA : Hid (∀ w1, w1 = w → Calls Tryz.prog 113 #[.string ⟨(Lib.trimPrefix l logB).toArray⟩] w1 fun e w' => ∃ N, e = .returned (.tuple #[.int .i64 0, .iface 208 (.pointer (some ⟨N, 0, none⟩))]) ∧ Below w.heap.size w w') := fun w1 h1 => by
      subst h1
      refine (Any.strconv_Atoi_syntax atoiL ⟨(Lib.trimPrefix l logB).toArray⟩ (by omega) (by simpa using h) ev w1 hev1 hev2).mono ?_
      rintro e w' ⟨N, he, _, _, hb⟩
      exact ⟨N, he, hb⟩
    have hz : numOf l = 0 := by unfold numOf; rw [h]
    rw [hz]
    go_enter Tryz.func96, Tryz.ntmps96
    go_wp2_with (first
      | (go_at_call 114; refine (HT.out _).mono ?_; rintro e w1 ⟨rfl, rfl⟩)
      | (go_at_call 113; refine (HA.out _ rfl).mono ?_; rintro e w2 ⟨N, rfl, k2⟩))
    go_ret
    exact ⟨rfl, k2⟩
  | range =>
    obtain ⟨ev, hev1, hev2⟩ := hv.rng
    have HA : Hid (∀ w1, w1 = w → Calls Tryz.prog 113 #[.string ⟨(Lib.trimPrefix l logB).toArray⟩] w1 fun e w' => ∃ N m, e = .returned (.tuple #[.int .i64 m, .iface 208 (.pointer (some ⟨N, 0, none⟩))]) ∧ Below w.heap.size w w') := fun w1 h1 => by
      subst h1
      refine (Any.strconv_Atoi_range atoiL ⟨(Lib.trimPrefix l logB).toArray⟩ (by omega) (by simpa using h) ev w1 hev1 hev2).mono ?_
      rintro e w' ⟨N, he, _, _, hb⟩
      exact ⟨N, _, he, hb⟩
    have hz : numOf l = 0 := by unfold numOf; rw [h]
    rw [hz]
    go_enter Tryz.func96, Tryz.ntmps96
    go_wp2_with (first
      | (go_at_call 114; refine (HT.out _).mono ?_; rintro e w1 ⟨rfl, rfl⟩)
      | (go_at_call 113; refine (HA.out _ rfl).mono ?_; rintro e w2 ⟨N, m, rfl, k2⟩))
    go_ret
    exact ⟨rfl, k2⟩
end Go.Proofs.YtoineobjmllicaaGreatDoor
