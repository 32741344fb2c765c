/- Contracts of the document: what one comes to on the way up, and whether a share shows its chunk. -/
import Derived.Test.YtoopaeahhbkncabDoorMerkleProve
namespace Go.Mk
open Go.RowKit
/-- As many digests as the way up has, all of 32 bytes. -/
def Gd (i n : Nat) (p : List ByteArray) : Prop := p.length = way i n ∧ ∀ h ∈ p, h.size = 32
theorem good_left {i n : Nat} {p : List ByteArray} {s : ByteArray} (h2 : 2 ≤ n) (hk : i < kc n) : Gd i n (p ++ [s]) ↔ s.size = 32 ∧ Gd i (kc n) p := by
  unfold Gd
  rw [way_left i n h2 hk, List.length_append]
  constructor
  · rintro ⟨a, b⟩; exact ⟨b s (by simp), by simp at a; omega, fun h hh => b h (by simp [hh])⟩
  · rintro ⟨a, b, c⟩; exact ⟨by simp; omega, fun h hh => by rcases List.mem_append.1 hh with q | q; exact c h q; simp at q; rw [q]; exact a⟩
theorem good_right {i n : Nat} {p : List ByteArray} {s : ByteArray} (h2 : 2 ≤ n) (hk : ¬ i < kc n) : Gd i n (p ++ [s]) ↔ s.size = 32 ∧ Gd (i - kc n) (n - kc n) p := by
  unfold Gd
  rw [way_right i n h2 hk, List.length_append]
  constructor
  · rintro ⟨a, b⟩; exact ⟨b s (by simp), by simp at a; omega, fun h hh => b h (by simp [hh])⟩
  · rintro ⟨a, b, c⟩; exact ⟨by simp; omega, fun h hh => by rcases List.mem_append.1 hh with q | q; exact c h q; simp at q; rw [q]; exact a⟩
theorem good_nil {i n : Nat} (h2 : 2 ≤ n) : ¬ Gd i n [] := by
  rintro ⟨a, -⟩
  by_cases hk : i < kc n
  · rw [way_left i n h2 hk] at a; simp at a; omega
  · rw [way_right i n h2 hk] at a; simp at a; omega
theorem climb_left' (h : ByteArray) (i n : Nat) (p : List ByteArray) (s : ByteArray) (hn : 2 ≤ n) (hi : i < kc n) : climb h i n (p ++ [s]) = tag 74 [climb h i (kc n) p, s] := by
  rw [climb_left h i n _ hn hi, List.dropLast_concat, List.getLast?_concat]; rfl
theorem climb_right' (h : ByteArray) (i n : Nat) (p : List ByteArray) (s : ByteArray) (hn : 2 ≤ n) (hi : ¬ i < kc n) : climb h i n (p ++ [s]) = tag 74 [s, climb h (i - kc n) (n - kc n) p] := by
  rw [climb_right h i n _ hn hi, List.dropLast_concat, List.getLast?_concat]; rfl
/-- What the way up tells. -/
structure Up (h : ByteArray) (i n : Nat) (p : List ByteArray) (r : ByteArray) (ok : Bool) : Prop where
  size : r.size ≤ 32
  good : Gd i n p → ok = true ∧ r = climb h i n p
  bad : ¬ Gd i n p → ok = false
/-- What the way up tells, reckoned. -/
def upF : Nat → ByteArray → Nat → Nat → List ByteArray → ByteArray × Bool
  | 0, h, _, _, p => (h, decide (p.length = 0))
  | f + 1, h, i, n, p =>
    if 2 ≤ n then
      match p.getLast? with
      | none => (⟨#[]⟩, false)
      | some s =>
        if s.size = 32 then
          if i < kc n then (tag 74 [(upF f h i (kc n) p.dropLast).1, s], (upF f h i (kc n) p.dropLast).2)
          else (tag 74 [s, (upF f h (i - kc n) (n - kc n) p.dropLast).1], (upF f h (i - kc n) (n - kc n) p.dropLast).2)
        else (⟨#[]⟩, false)
    else (h, decide (p.length = 0))
theorem upF_same : ∀ (f g : Nat) (h : ByteArray) (i n : Nat) (p : List ByteArray), n ≤ f → n ≤ g → upF f h i n p = upF g h i n p
  | 0, 0, _, _, _, _, _, _ => rfl
  | 0, _ + 1, _, _, n, _, h, _ => by
    obtain rfl : n = 0 := by omega
    rfl
  | _ + 1, 0, _, _, n, _, _, h => by
    obtain rfl : n = 0 := by omega
    rfl
  | f + 1, g + 1, h, i, n, p, h1, h2 => by
    unfold upF
    by_cases hn : 2 ≤ n
    · have k1 := kc_pos n
      have k2 := kc_lt hn
      rw [if_pos hn, if_pos hn, upF_same f g h i (kc n) p.dropLast (by omega) (by omega), upF_same f g h (i - kc n) (n - kc n) p.dropLast (by omega) (by omega)]
    · rw [if_neg hn, if_neg hn]
def up (h : ByteArray) (i n : Nat) (p : List ByteArray) : ByteArray × Bool := upF n h i n p
theorem up_step (h : ByteArray) (i n : Nat) (p : List ByteArray) (hn : 2 ≤ n) : up h i n p = match p.getLast? with
    | none => (⟨#[]⟩, false)
    | some s =>
      if s.size = 32 then
        if i < kc n then (tag 74 [(up h i (kc n) p.dropLast).1, s], (up h i (kc n) p.dropLast).2)
        else (tag 74 [s, (up h (i - kc n) (n - kc n) p.dropLast).1], (up h (i - kc n) (n - kc n) p.dropLast).2)
      else (⟨#[]⟩, false) := by
  have k1 := kc_pos n
  have k2 := kc_lt hn
  obtain ⟨f, rfl⟩ : ∃ f, n = f + 1 := ⟨n - 1, by omega⟩
  show upF (f + 1) h i (f + 1) p = _
  unfold upF
  rw [if_pos hn]
  unfold up
  rw [upF_same f _ h i (kc (f + 1)) p.dropLast (by omega) (Nat.le_refl _), upF_same f _ h (i - kc (f + 1)) (f + 1 - kc (f + 1)) p.dropLast (by omega) (Nat.le_refl _)]
theorem len_zero (n : Nat) : ((n : Int) == 0) = decide (n = 0) := by
  rw [Bool.eq_iff_iff]; simp
theorem up_nil (h : ByteArray) (i n : Nat) (h2 : 2 ≤ n) : up h i n [] = (⟨#[]⟩, false) := by rw [up_step h i n [] h2]; rfl
theorem up_bad (h : ByteArray) (i n : Nat) (p : List ByteArray) (s : ByteArray) (h2 : 2 ≤ n) (hs : s.size ≠ 32) : up h i n (p ++ [s]) = (⟨#[]⟩, false) := by
  rw [up_step h i n _ h2, List.getLast?_concat]; simp [hs]
theorem up_left (h : ByteArray) (i n : Nat) (p : List ByteArray) (s : ByteArray) (h2 : 2 ≤ n) (hs : s.size = 32) (hk : i < kc n) : up h i n (p ++ [s]) = (tag 74 [(up h i (kc n) p).1, s], (up h i (kc n) p).2) := by
  rw [up_step h i n _ h2, List.getLast?_concat, List.dropLast_concat]; simp [hs, hk]
theorem up_right (h : ByteArray) (i n : Nat) (p : List ByteArray) (s : ByteArray) (h2 : 2 ≤ n) (hs : s.size = 32) (hk : ¬ i < kc n) : up h i n (p ++ [s]) = (tag 74 [s, (up h (i - kc n) (n - kc n) p).1], (up h (i - kc n) (n - kc n) p).2) := by
  rw [up_step h i n _ h2, List.getLast?_concat, List.dropLast_concat]; simp [hs, hk]
theorem up_one (h : ByteArray) (i n : Nat) (p : List ByteArray) (h2 : n < 2) : up h i n p = (h, decide (p.length = 0)) := by
  match n, h2 with
  | 0, _ => rfl
  | 1, _ => rfl
theorem up_spec (n : Nat) : ∀ (h : ByteArray) (i : Nat) (p : List ByteArray) (_ : 1 ≤ n) (_ : h.size = 32), Up h i n p (up h i n p).1 (up h i n p).2 := by
  induction n using Nat.strongRecOn with
  | _ n ih =>
    intro h i p h1 hh
    by_cases h2 : 2 ≤ n
    · have k1 := kc_pos n
      have k2 := kc_lt h2
      rcases List.eq_nil_or_concat p with rfl | ⟨p, s, hps⟩
      · rw [up_nil h i n h2]
        exact ⟨by show (0 : Nat) ≤ 32; omega, fun g => absurd g (good_nil h2), fun _ => rfl⟩
      · rw [List.concat_eq_append] at hps
        subst hps
        by_cases hs : s.size = 32
        · by_cases hk : i < kc n
          · have U := ih (kc n) k2 h i p k1 hh
            rw [up_left h i n p s h2 hs hk]
            refine ⟨Nat.le_of_eq (tag_size _ _), fun hg => ?_, fun hg => U.bad fun hg' => hg ((good_left h2 hk).2 ⟨hs, hg'⟩)⟩
            obtain ⟨o1, o2⟩ := U.good ((good_left h2 hk).1 hg).2
            exact ⟨o1, by rw [climb_left' h i n p s h2 hk, o2]⟩
          · have U := ih (n - kc n) (by omega) h (i - kc n) p (by omega) hh
            rw [up_right h i n p s h2 hs hk]
            refine ⟨Nat.le_of_eq (tag_size _ _), fun hg => ?_, fun hg => U.bad fun hg' => hg ((good_right h2 hk).2 ⟨hs, hg'⟩)⟩
            obtain ⟨o1, o2⟩ := U.good ((good_right h2 hk).1 hg).2
            exact ⟨o1, by rw [climb_right' h i n p s h2 hk, o2]⟩
        · rw [up_bad h i n p s h2 hs]
          exact ⟨by show (0 : Nat) ≤ 32; omega, fun g => absurd (g.2 s (by simp)) hs, fun _ => rfl⟩
    · have e1 : n = 1 := by omega
      subst e1
      rw [up_one h i 1 p (by omega)]
      have hg : Gd i 1 p ↔ p.length = 0 := by
        unfold Gd; rw [way_one i 1 (by omega)]
        exact ⟨fun g => g.1, fun g => ⟨g, fun x hx => by rw [List.length_eq_zero_iff.1 g] at hx; cases hx⟩⟩
      refine ⟨by show h.size ≤ 32; omega, fun g => ⟨decide_eq_true (hg.1 g), by rw [climb_one h i 1 p (by omega)]⟩, fun g => decide_eq_false (fun e => g (hg.2 e))⟩
end Go.Mk
namespace Go.Proofs.YtoopaeahhbkncabDoor
open Go.RowKit Go.Mk Go.Chunk
attribute [local go_sem] Oper.semAt_some
theorem up_any (n : Nat) : ∀ (h : ByteArray) (i : Nat) (v : Value) (p : List ByteArray) (w : World) (_ : 1 ≤ n) (_ : n ≤ 256) (_ : i < n) (_ : h.size = 32) (_ : p.length ≤ 100) (_ : StrRow.Reads w v p),
    Calls Tryd.prog 24 #[.string h, .int .i64 i, .int .i64 n, v] w fun e w' => e = .returned (.tuple #[.string (up h i n p).1, .bool (up h i n p).2]) ∧ Below w.heap.size w w' := by
  induction n using Nat.strongRecOn with
  | _ n ih =>
    intro h i v p w h1 h256 hi hh hp hr
    by_cases h2 : 2 ≤ n
    · have n1 : ¬ ((n : Int) = 1) := by omega
      have k1 := kc_pos n
      have k2 := kc_lt h2
      have HF := hide (fun w => rcutk_any n w h2 h256)
      rcases List.eq_nil_or_concat p with rfl | ⟨p, s, hps⟩
      · obtain ⟨a, c, rfl⟩ := hr.form
        rw [up_nil h i n h2]
        clear ih hr
        go_enter Tryd.func24, Tryd.ntmps24
        go_wp2_with fail
        go_ret2
        exact ⟨rfl, Below.refl _ _⟩
      · rw [List.concat_eq_append] at hps
        subst hps
        obtain ⟨b, off, cap, rfl, hcap, hb⟩ := hr.at (by simp)
        have hcell := hr.cell (j := p.length) (s := s) (by simp)
        have hrt := reads_take hr p.length (by simp)
        rw [List.take_left] at hrt
        simp only [List.length_append, List.length_cons, List.length_nil, Nat.zero_add] at hcap hp hrt ⊢
        by_cases hs32 : s.size = 32
        · by_cases hk : i < kc n
          · rw [up_left h i n p s h2 hs32 hk]
            have hrs := (up_spec (kc n) h i p k1 hh).size
            have HU := hide (fun (w' : World) (hw : Below w.heap.size w w') => ih (kc n) k2 h i (.slice (some ⟨b, off, none⟩) p.length cap) p w' k1 (by omega) hk hh (by omega) (hrt.below hw (Nat.le_refl _)))
            have HT := hide (fun (r : ByteArray) (w' : World) (hr : r.size ≤ 32) => rtagged_any 74 (.slice (some ⟨w'.heap.size, 0, none⟩) 2 2) [r, s] (w'.alloc (.cells #[.string r, .string s] 9)) (reads_lit2 w' r s 9) (by simp) (by simp; exact ⟨by omega, by omega⟩))
            generalize (up h i (kc n) p).1 = r at *
            generalize (up h i (kc n) p).2 = ok at *
            clear ih hr hrt
            generalize p.length = q at *
            have j3 : (q : Int) + 1 ≤ cap := by omega
            have j4 : (0 : Int) ≤ q := by omega
            have j5 : (q : Int) ≤ 100 := by omega
            have j10 : ((q : Int) + 1 == 0) = false := by simp; omega
            have j6 : (q : Int) ≤ cap := by omega
            generalize kc n = k at *
            have j2 : (i : Int) < k := by omega
            have hs32' : (s.size : Int) = 32 := by omega
            go_enter Tryd.func24, Tryd.ntmps24
            go_wp2_with (first
              | (go_at_call 30; refine (HF.out _).mono ?_; rintro e w2 ⟨rfl, hw⟩; subst hw)
              | (go_at_call 24; refine (HU.out _ (Below.refl _ _)).mono ?_; rintro e w3 ⟨rfl, hb3⟩; have HUP := hide hb3; clear hb3)
              | (go_at_call 29; refine (HT.out r _ hrs).mono ?_; rintro e w4 ⟨rfl, hb4⟩))
            go_ret2
            exact ⟨rfl, HUP.out.trans (((Below.refl _ w3).alloc (Nat.le_refl _) _).trans (hb4.mono (by simp)) |>.mono HUP.out.size)⟩
          · rw [up_right h i n p s h2 hs32 hk]
            have hrs := (up_spec (n - kc n) h (i - kc n) p (by omega) hh).size
            have HU := hide (fun (w' : World) (hw : Below w.heap.size w w') => ih (n - kc n) (by omega) h (i - kc n) (.slice (some ⟨b, off, none⟩) p.length cap) p w' (by omega) (by omega) (by omega) hh (by omega) (hrt.below hw (Nat.le_refl _)))
            have HT := hide (fun (r : ByteArray) (w' : World) (hr : r.size ≤ 32) => rtagged_any 74 (.slice (some ⟨w'.heap.size, 0, none⟩) 2 2) [s, r] (w'.alloc (.cells #[.string s, .string r] 9)) (reads_lit2 w' s r 9) (by simp) (by simp; exact ⟨by omega, by omega⟩))
            generalize (up h (i - kc n) (n - kc n) p).1 = r at *
            generalize (up h (i - kc n) (n - kc n) p).2 = ok at *
            clear ih hr hrt
            generalize p.length = q at *
            have j3 : (q : Int) + 1 ≤ cap := by omega
            have j4 : (0 : Int) ≤ q := by omega
            have j5 : (q : Int) ≤ 100 := by omega
            have j10 : ((q : Int) + 1 == 0) = false := by simp; omega
            have j6 : (q : Int) ≤ cap := by omega
            generalize kc n = k at *
            have j2 : ¬ ((i : Int) < k) := by omega
            rw [show ((i - k : Nat) : Int) = (i : Int) - k by omega, show ((n - k : Nat) : Int) = (n : Int) - k by omega] at HU
            have j9 : (n : Int) ≤ 256 := by omega
            have hs32' : (s.size : Int) = 32 := by omega
            go_enter Tryd.func24, Tryd.ntmps24
            go_wp2_with (first
              | (go_at_call 30; refine (HF.out _).mono ?_; rintro e w2 ⟨rfl, hw⟩; subst hw)
              | (go_at_call 24; refine (HU.out _ (Below.refl _ _)).mono ?_; rintro e w3 ⟨rfl, hb3⟩; have HUP := hide hb3; clear hb3)
              | (go_at_call 29; refine (HT.out r _ hrs).mono ?_; rintro e w4 ⟨rfl, hb4⟩))
            go_ret2
            exact ⟨rfl, HUP.out.trans (((Below.refl _ w3).alloc (Nat.le_refl _) _).trans (hb4.mono (by simp)) |>.mono HUP.out.size)⟩
        · rw [up_bad h i n p s h2 hs32]
          have hs32' : ¬ ((s.size : Int) = 32) := by omega
          clear ih hr hrt
          generalize p.length = q at *
          have j3 : (q : Int) + 1 ≤ cap := by omega
          have j4 : (0 : Int) ≤ q := by omega
          have j5 : (q : Int) ≤ 100 := by omega
          have j10 : ((q : Int) + 1 == 0) = false := by simp; omega
          go_enter Tryd.func24, Tryd.ntmps24
          go_wp2_with fail
          go_ret2
          exact ⟨rfl, Below.refl _ _⟩
    · have e1 : n = 1 := by omega
      subst e1
      obtain ⟨a, c, rfl⟩ := hr.form
      clear ih hr
      go_enter Tryd.func24, Tryd.ntmps24
      go_wp2_with fail
      go_ret2
      rw [up_one h i 1 p (by omega), ← len_zero]
      exact ⟨rfl, Below.refl _ _⟩
end Go.Proofs.YtoopaeahhbkncabDoor
