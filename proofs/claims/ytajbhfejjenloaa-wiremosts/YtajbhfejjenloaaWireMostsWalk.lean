/- The walk of WireMosts. -/
import Derived.Test.YtajbhfejjenloaaWireBack
import Derived.Test.YtajbhfejjenloaaWireQuiet
namespace Go.Wire
theorem and_small (n : Int) (c : Nat) (hc : c < 1000) : ∃ m : Nat, m ≤ c ∧ bits .and .i64 n (c : Int) = (m : Int) := by
  have h1 : (BitVec.ofInt 64 n &&& BitVec.ofInt 64 (c : Int)).toNat ≤ c := by
    rw [BitVec.toNat_and]
    refine Nat.le_trans Nat.and_le_right ?_
    simp
    omega
  refine ⟨(BitVec.ofInt 64 n &&& BitVec.ofInt 64 (c : Int)).toNat, h1, ?_⟩
  have e : bits .and .i64 n (c : Int) = IntKind.i64.wrap ((BitVec.ofInt 64 n &&& BitVec.ofInt 64 (c : Int)).toNat : Int) := rfl
  rw [e]
  generalize (BitVec.ofInt 64 n &&& BitVec.ofInt 64 (c : Int)).toNat = m at h1
  simp [IntKind.wrap, IntKind.bits, IntKind.signed]
  omega
theorem text_at {q : St} {A t C : ByteArray} (most : Int) (ht : t.size < 4294967296) (hm : (t.size : Int) ≤ most) (hs : q.s = A ++ textB t ++ C) (hp : q.pos = A.size) (he : q.err = 0) : q.text most = (⟨q.s, A.size + (t.size + 8), 0⟩, t) := by
  have hc := count_at (q := q) (A := A) (C := t ++ C) t.size most ht hm (by rw [hs]; apply ext_list; simp only [app_list, textB]; simp) hp he
  have hz : q.s.size = A.size + (t.size + 8) + C.size := by rw [hs, ByteArray.size_append, ByteArray.size_append, textB_size]
  have hb : (St.mk q.s (A.size + 8) 0).bytes t.size = (⟨q.s, A.size + 8 + t.size, 0⟩, t) := by
    have := bytes_at (q := St.mk q.s (A.size + 8) 0) (A := A ++ numB 8 t.size) (B := t) (C := C) (by show q.s = _; rw [hs]; apply ext_list; simp only [app_list, textB]; simp) (by rw [ByteArray.size_append, numB_size]) rfl t.size rfl
    rw [ByteArray.size_append, numB_size] at this
    exact this
  rw [St.text_ok q most (by rw [hc]; show ¬ ((q.s.size : Int) - ((A.size + 8 : Nat) : Int) < (t.size : Int)); omega), hc, hb]
  rw [Nat.add_assoc, Nat.add_comm 8]
theorem text_most {q : St} {A t C : ByteArray} (most : Int) (ht : t.size < 4294967296) (hm : most < (t.size : Int)) (hs : q.s = A ++ textB t ++ C) (hp : q.pos = A.size) (he : q.err = 0) : q.text most = (⟨q.s, q.pos, 3⟩, ⟨#[]⟩) := by
  have h4 : q.number 4 = (⟨q.s, A.size + 8, 0⟩, t.size) := number_at (C := t ++ C) 4 t.size (by decide) ht (by rw [hs]; apply ext_list; simp only [app_list, textB]; simp) hp he
  have hc : q.count most = (⟨q.s, q.pos, 3⟩, 0) := by
    rw [St.count_no q most (by rw [h4]; exact .inr hm), h4]
    rfl
  unfold St.text
  rw [hc]
  exact if_pos ⟨(by decide : (3 : Int) ≠ 0), he⟩
/-- So many letters a. -/
def reps : Nat → ByteArray
  | 0 => ⟨#[]⟩
  | k + 1 => reps k ++ ⟨#[97]⟩
theorem reps_size (k : Nat) : (reps k).size = k := by
  induction k with
  | zero => rfl
  | succ k ih => rw [reps, ByteArray.size_append, ih]; rfl
theorem most_st (t : ByteArray) : ((St.mk (textB t ++ ⟨#[121]⟩) (t.size + 8) 0).bool = (⟨textB t ++ ⟨#[121]⟩, t.size + 9, 0⟩, true)) ∧ (St.mk (textB t ++ ⟨#[121]⟩) (t.size + 9) 0).fin = ⟨textB t ++ ⟨#[121]⟩, t.size + 9, 0⟩ := by
  have hb : (St.mk (textB t ++ ⟨#[121]⟩) (t.size + 8) 0).bytes 1 = (⟨textB t ++ ⟨#[121]⟩, t.size + 9, 0⟩, ⟨#[121]⟩) := by
    have := bytes_at (q := St.mk (textB t ++ ⟨#[121]⟩) (t.size + 8) 0) (A := textB t) (B := ⟨#[121]⟩) (C := ⟨#[]⟩) (by show _ = _; apply ext_list; simp) (by rw [textB_size]) rfl 1 rfl
    rw [textB_size] at this
    exact this
  constructor
  · rw [St.bool_y _ (by rw [hb]), hb]
  · refine St.fin_end _ ?_
    show ¬ (0 < (((textB t ++ ⟨#[121]⟩).size : Nat) : Int) - ((t.size + 9 : Nat) : Int))
    rw [ByteArray.size_append, textB_size]
    show ¬ (0 < ((t.size + 8 + 1 : Nat) : Int) - ((t.size + 9 : Nat) : Int))
    omega
end Go.Wire
namespace Go.Proofs.Ytajbhfejjenloaa
open Go.RowKit Go.Wire Go.Sort
set_option maxHeartbeats 1000000 in
theorem wireMosts_any (n most : Int) (w : World) (_ : (Lit.int .i64 n).wf = true) (hmo : (Lit.int .i64 most).wf = true) :
    Calls Try.prog 8 #[.int .i64 n, .int .i64 most] w fun e w' => e = .returned (.bool true) ∧ Below w.heap.size w w' := by
  have hm1 : most ≤ 9223372036854775807 := by
    have : -9223372036854775808 ≤ most ∧ most ≤ 9223372036854775807 := by simpa [Lit.wf, IntKind.min, IntKind.max, IntKind.signed, IntKind.bits] using hmo
    exact this.2
  clear hmo
  obtain ⟨k, hk, hand⟩ := and_small n 255 (by omega)
  have hand2 : bits .and .i64 n 255 = (k : Int) := hand
  clear hand
  have hz := reps_size k
  go_enter Try.func8, Try.ntmps8
  go_wp2_with fail
  go_loop [6, 7] (fun vs vi => ∃ i : Nat, i ≤ k ∧ vi = .int .i64 i ∧ vs = .string (reps i)) (fun _ vi => k - (intOf vi).toNat)
  case atStart => exact ⟨0, Nat.zero_le _, rfl, rfl⟩
  case round =>
    obtain ⟨i, hi, rfl, rfl⟩ := hrel
    by_cases hlt : i < k
    · have hri := reps_size i
      have HN : Hid (reps (i + 1) = reps i ++ ⟨#[97]⟩) := rfl
      generalize reps i = R at hri HN
      go_wp2_with fail
      go_round
      case rel => exact ⟨i + 1, by omega, by go_num, by rw [HN.out]⟩
      case measure => simp [intOf]; omega
    · have hik : i = k := by omega
      subst hik
      have T : ∀ {a b c : World}, Below a.heap.size a b → Below b.heap.size b c → Below a.heap.size a c := fun x y => x.trans (y.mono x.size)
      generalize reps i = t at hz
      have H1 : Hid (∀ w : World, Calls Try.prog 40 #[.string t] w fun e w' => e = .returned (.string (textB t)) ∧ Below w.heap.size w w') := fun w => rtextB_any t w (by omega)
      have hts := textB_size t
      have htl : (textB t ++ ⟨#[121]⟩).size ≤ maxLen := by rw [ByteArray.size_append, hts]; show t.size + 8 + 1 ≤ maxLen; unfold maxLen; omega
      by_cases hmk : most < i
      · have hx : (St.mk (textB t ++ ⟨#[121]⟩) 0 0).text most = (⟨textB t ++ ⟨#[121]⟩, 0, 3⟩, ⟨#[]⟩) := text_most (A := ⟨#[]⟩) (t := t) (C := ⟨#[121]⟩) most (by omega) (by omega) (by show _ = _; apply ext_list; simp) rfl rfl
        have H2 : ∀ {b : Nat} {w : World}, Rd 74 b ⟨textB t ++ ⟨#[121]⟩, 0, 0⟩ w → Hid (Calls Try.prog 26 #[.pointer (some ⟨b, 0, none⟩), .int .i64 most] w fun e w' => e = .returned (.string ⟨#[]⟩) ∧ Rd 74 b ⟨textB t ++ ⟨#[121]⟩, 0, 3⟩ w' ∧ Kept b w w') := fun h => by
          have := text_any _ _ most _ h (Nat.zero_le _) htl hm1
          rwa [hx] at this
        clear hx
        generalize textB t = x at H1 H2 hts htl
        go_wp2_with (first
          | (go_at_call 40; refine (H1.out _).mono ?_; rintro e w1 ⟨rfl, k1⟩)
          | (go_at_call 10; refine (newReader_any _ _).mono ?_; rintro e w2 ⟨rfl, h2, k2⟩)
          | (go_at_call 26; refine (H2 (by assumption)).out.mono ?_; rintro e w3 ⟨rfl, h3, k3⟩)
          | (go_at_call 13; refine (awake_any _).mono ?_; rintro e w4 ⟨rfl, k4⟩; have h4 : Rd 74 _ _ w4 := kept_block h3 k4)
          | (go_at_call 14; refine (err_any _ _ _ h4).mono ?_; rintro e w' ⟨rfl, rfl⟩)
          | (go_at_call 15; refine (at_any _ _ _ h4).mono ?_; rintro e w' ⟨rfl, rfl⟩))
        go_ret
        exact ⟨rfl, T k1 ((k2.trans k3.below).trans (k4.mono (k2.trans k3.below).size))⟩
      · have hx : (St.mk (textB t ++ ⟨#[121]⟩) 0 0).text most = (⟨textB t ++ ⟨#[121]⟩, t.size + 8, 0⟩, t) := by
          have := text_at (q := St.mk (textB t ++ ⟨#[121]⟩) 0 0) (A := ⟨#[]⟩) (t := t) (C := ⟨#[121]⟩) most (by omega) (by omega) (by show _ = _; apply ext_list; simp) rfl rfl
          rw [show (⟨#[]⟩ : ByteArray).size = 0 from rfl, Nat.zero_add] at this
          exact this
        have H2 : ∀ {b : Nat} {w : World}, Rd 74 b ⟨textB t ++ ⟨#[121]⟩, 0, 0⟩ w → Hid (Calls Try.prog 26 #[.pointer (some ⟨b, 0, none⟩), .int .i64 most] w fun e w' => e = .returned (.string t) ∧ Rd 74 b ⟨textB t ++ ⟨#[121]⟩, t.size + 8, 0⟩ w' ∧ Kept b w w') := fun h => by
          have := text_any _ _ most _ h (Nat.zero_le _) htl hm1
          rwa [hx] at this
        have hle : ∀ j, j ≤ 9 → t.size + j ≤ (textB t ++ ⟨#[121]⟩).size := fun j hj => by rw [ByteArray.size_append, hts]; show t.size + j ≤ t.size + 8 + 1; omega
        obtain ⟨hy, hy2⟩ := most_st t
        have H3 : ∀ {b : Nat} {w : World}, Rd 74 b ⟨textB t ++ ⟨#[121]⟩, t.size + 8, 0⟩ w → Hid (Calls Try.prog 30 #[.pointer (some ⟨b, 0, none⟩)] w fun e w' => e = .returned (.bool true) ∧ Rd 74 b ⟨textB t ++ ⟨#[121]⟩, t.size + 9, 0⟩ w' ∧ Kept b w w') := fun h => by
          have := bool_any _ _ _ h (hle 8 (by decide)) htl
          rwa [hy] at this
        have H4 : ∀ {b : Nat} {w : World}, Rd 74 b ⟨textB t ++ ⟨#[121]⟩, t.size + 9, 0⟩ w → Hid (Calls Try.prog 33 #[.pointer (some ⟨b, 0, none⟩)] w fun e w' => e = .returned (.int .i64 0) ∧ Rd 74 b ⟨textB t ++ ⟨#[121]⟩, t.size + 9, 0⟩ w' ∧ Kept b w w') := fun h => by
          have := end_any _ _ _ h (hle 9 (by decide)) htl
          rwa [hy2] at this
        clear hx hy hy2 hle
        generalize textB t = x at H1 H2 H3 H4 hts htl
        go_wp2_with (first
          | (go_at_call 40; refine (H1.out _).mono ?_; rintro e w1 ⟨rfl, k1⟩)
          | (go_at_call 10; refine (newReader_any _ _).mono ?_; rintro e w2 ⟨rfl, h2, k2⟩)
          | (go_at_call 26; refine (H2 (by assumption)).out.mono ?_; rintro e w3 ⟨rfl, h3, k3⟩)
          | (go_at_call 13; refine (awake_any _).mono ?_; rintro e w4 ⟨rfl, k4⟩; have h4 : Rd 74 _ _ w4 := kept_block h3 k4)
          | (go_at_call 30; refine (H3 (by assumption)).out.mono ?_; rintro e w5 ⟨rfl, h5, k5⟩)
          | (go_at_call 33; refine (H4 (by assumption)).out.mono ?_; rintro e w6 ⟨rfl, h6, k6⟩))
        go_ret
        have kk := (k2.trans k3.below).trans (k4.mono (k2.trans k3.below).size)
        exact ⟨rfl, k1.trans (((kk.trans k5.below).trans k6.below).mono k1.size)⟩
end Go.Proofs.Ytajbhfejjenloaa
