/- Plain functions for numbers, texts, digests and frames in bytes, and for a reader that goes through bytes; no program text is named here. -/
import Derived.Laws.Entries
import Derived.Laws.Bits64
namespace Go.Wire
/-! ### The check -/
def step (h : Nat) (c : UInt8) : Nat := (h ^^^ c.toNat) * 16777619 % 4294967296
def fnv (l : List UInt8) : Nat := l.foldl step 2166136261
theorem fold_snoc {α β : Type} (f : α → β → α) (l : List β) (c : β) (h : α) : (l ++ [c]).foldl f h = f (l.foldl f h) c := by simp
theorem fnv_snoc (l : List UInt8) (c : UInt8) : fnv (l ++ [c]) = step (fnv l) c := fold_snoc step l c 2166136261
theorem step_lt (h : Nat) (c : UInt8) : step h c < 4294967296 := Nat.mod_lt _ (by decide)
theorem fold_lt (l : List UInt8) (h : Nat) (hh : h < 4294967296) : l.foldl step h < 4294967296 := by
  induction l generalizing h with
  | nil => exact hh
  | cons c r ih => exact ih _ (step_lt _ _)
theorem fnv_lt (l : List UInt8) : fnv l < 4294967296 := fold_lt l _ (by decide)
theorem xor_lt (h : Nat) (c : UInt8) (hh : h < 4294967296) : h ^^^ c.toNat < 4294967296 :=
  Nat.xor_lt_two_pow (n := 32) hh (Nat.lt_trans c.toNat_lt (by decide))
theorem wrap_u32 (n : Int) : IntKind.u32.wrap n = n % 4294967296 := by simp [IntKind.wrap, IntKind.bits, IntKind.signed]
theorem wrap_u64 (n : Int) : IntKind.u64.wrap n = n % 18446744073709551616 := by simp [IntKind.wrap, IntKind.bits, IntKind.signed]
theorem xor_u32 (h : Nat) (c : UInt8) (hh : h < 4294967296) : bits .xor .u32 (h : Int) ((c.toNat : Nat) : Int) = ((h ^^^ c.toNat : Nat) : Int) := by
  have hx := xor_lt h c hh
  have hc := c.toNat_lt
  have h1 : (BitVec.ofInt 32 (h : Int)).toNat = h := by
    rw [BitVec.ofInt_natCast, BitVec.toNat_ofNat]; exact Nat.mod_eq_of_lt (by omega)
  have h2 : (BitVec.ofInt 32 (c.toNat : Int)).toNat = c.toNat := by
    rw [BitVec.ofInt_natCast, BitVec.toNat_ofNat]; exact Nat.mod_eq_of_lt (by omega)
  show IntKind.u32.wrap ((BitVec.ofInt 32 (h : Int) ^^^ BitVec.ofInt 32 (c.toNat : Int)).toNat : Int) = _
  rw [BitVec.toNat_xor, h1, h2, wrap_u32]
  omega
theorem xor_u64 (h : Nat) (c : UInt8) (hh : h < 4294967296) : bits .xor .u64 (h : Int) ((c.toNat : Nat) : Int) = ((h ^^^ c.toNat : Nat) : Int) :=
  bits_xor_u64_nat _ _ (by omega) (by have := c.toNat_lt; omega)
/-! ### Digits -/
def hexd (d : Nat) : UInt8 := if d < 10 then UInt8.ofNat (48 + d) else UInt8.ofNat (87 + d)
/-- The lowest k digits of n, the highest first. -/
def num : Nat → Nat → List UInt8
  | 0, _ => []
  | k + 1, n => num k (n / 16) ++ [hexd (n % 16)]
theorem num_length (k n : Nat) : (num k n).length = k := by
  induction k generalizing n with
  | zero => rfl
  | succ k ih => simp [num, ih]
def numB (k n : Nat) : ByteArray := ⟨(num k n).toArray⟩
theorem numB_size (k n : Nat) : (numB k n).size = k := by simp [numB, ByteArray.size, num_length]
theorem numB_list (k n : Nat) : (numB k n).data.toList = num k n := by simp [numB]
/-- The value of a digit. -/
def dig (c : UInt8) : Option Nat := if 48 ≤ c.toNat ∧ c.toNat ≤ 57 then some (c.toNat - 48) else if 97 ≤ c.toNat ∧ c.toNat ≤ 102 then some (c.toNat - 87) else none
theorem dig_hexd (d : Nat) (h : d < 16) : dig (hexd d) = some d := by
  have key : ∀ d, d < 16 → dig (hexd d) = some d := by decide
  exact key d h
theorem dig_lt {c : UInt8} {d : Nat} (h : dig c = some d) : d < 16 := by
  unfold dig at h; split at h
  · cases h; omega
  · split at h
    · cases h; omega
    · cases h
def vstep (o : Option Nat) (c : UInt8) : Option Nat := o.bind fun n => (dig c).map fun d => n * 16 + d
/-- The number that digits are. -/
def val (l : List UInt8) : Option Nat := l.foldl vstep (some 0)
theorem val_snoc (l : List UInt8) (c : UInt8) : val (l ++ [c]) = vstep (val l) c := by
  simp only [val, List.foldl_append, List.foldl_cons, List.foldl_nil]
theorem fold_none (l : List UInt8) : l.foldl vstep none = none := by
  induction l with
  | nil => rfl
  | cons c r ih => exact ih
theorem val_none {l r : List UInt8} {c : UInt8} (h : dig c = none) : val (l ++ c :: r) = none := by
  simp only [val, List.foldl_append, List.foldl_cons]
  have : vstep (l.foldl vstep (some 0)) c = none := by
    cases l.foldl vstep (some 0) <;> simp [vstep, h]
  rw [this, fold_none]
theorem fold_val_lt (l : List UInt8) : ∀ m n, l.foldl vstep (some m) = some n → n < (m + 1) * 16 ^ l.length := by
  induction l with
  | nil => intro m n h; cases h; simp
  | cons c r ih =>
    intro m n h
    rw [List.foldl_cons] at h
    cases hd : dig c with
    | none => rw [show vstep (some m) c = none by simp [vstep, hd], fold_none] at h; cases h
    | some d =>
      rw [show vstep (some m) c = some (m * 16 + d) by simp [vstep, hd]] at h
      have h1 := ih _ _ h
      have h2 := dig_lt hd
      have h3 : (m * 16 + d + 1) * 16 ^ r.length ≤ ((m + 1) * 16) * 16 ^ r.length := Nat.mul_le_mul_right _ (by omega)
      rw [List.length_cons, Nat.pow_succ, Nat.mul_comm (16 ^ r.length) 16, ← Nat.mul_assoc]
      omega
theorem val_lt (l : List UInt8) (n : Nat) (h : val l = some n) : n < 16 ^ l.length := by
  have := fold_val_lt l 0 n h
  simpa using this
theorem val_num (k n : Nat) : val (num k n) = some (n % 16 ^ k) := by
  induction k generalizing n with
  | zero => simp [num, val, Nat.mod_one]
  | succ k ih =>
    rw [num, val_snoc, ih]
    simp only [vstep, Option.bind_some, dig_hexd _ (Nat.mod_lt n (by decide : 16 > 0)), Option.map_some, Option.some.injEq]
    rw [Nat.pow_succ, Nat.mul_comm (16 ^ k) 16, Nat.mod_mul]
    omega
/-! ### A reader: bytes, how many were taken, the error -/
structure St where
  s : ByteArray
  pos : Nat
  err : Int
def St.fail (q : St) (e : Int) : St := if q.err = 0 then ⟨q.s, q.pos, e⟩ else q
def St.back (q : St) (p : Nat) (e : Int) : St := if q.err = 0 then ⟨q.s, p, e⟩ else q
def St.bytes (q : St) (n : Int) : St × ByteArray :=
  if q.err ≠ 0 then (q, ⟨#[]⟩) else if n < 0 then (⟨q.s, q.pos, 1⟩, ⟨#[]⟩) else if (q.s.size : Int) - q.pos < n then (⟨q.s, q.pos, 4⟩, ⟨#[]⟩)
  else (⟨q.s, q.pos + n.toNat, 0⟩, q.s.extract q.pos (q.pos + n.toNat))
theorem St.fail_ne (q : St) (e : Int) (he : e ≠ 0) : (q.fail e).err ≠ 0 := by unfold St.fail; split <;> assumption
theorem St.bytes_neg (q : St) (n : Int) (hn : n < 0) : q.bytes n = (q.fail 1, ⟨#[]⟩) := by
  unfold St.bytes St.fail; by_cases he : q.err = 0 <;> simp [he, hn]
theorem St.bytes_cut (q : St) (n : Int) (hn : ¬ n < 0) (hl : (q.s.size : Int) - q.pos < n) : q.bytes n = (q.fail 4, ⟨#[]⟩) := by
  unfold St.bytes St.fail; by_cases he : q.err = 0 <;> simp [he, hn, hl]
theorem St.bytes_err (q : St) (n : Int) (he : q.err ≠ 0) : q.bytes n = (q, ⟨#[]⟩) := by
  unfold St.bytes; simp [he]
theorem St.bytes_ok (q : St) (n : Int) (he : q.err = 0) (hn : ¬ n < 0) (hl : ¬ (q.s.size : Int) - q.pos < n) : q.bytes n = (⟨q.s, q.pos + n.toNat, 0⟩, q.s.extract q.pos (q.pos + n.toNat)) := by
  unfold St.bytes; simp [he, hn, hl]
def St.number (q : St) (k : Int) : St × Nat :=
  if q.err = 0 ∧ (k < 0 ∨ 8 < k) then (⟨q.s, q.pos, 1⟩, 0)
  else match val (q.bytes (2 * k)).2.data.toList with
    | none => (⟨q.s, q.pos, 6⟩, 0)
    | some n => ((q.bytes (2 * k)).1, n)
theorem St.fail_s (q : St) (e : Int) : (q.fail e).s = q.s := by unfold St.fail; split <;> rfl
theorem St.fail_pos (q : St) (e : Int) : (q.fail e).pos = q.pos := by unfold St.fail; split <;> rfl
theorem St.bytes_s (q : St) (n : Int) : (q.bytes n).1.s = q.s := by
  unfold St.bytes; split
  · rfl
  · split
    · rfl
    · split <;> rfl
theorem St.bytes_le (q : St) (n : Int) (h : q.pos ≤ q.s.size) : (q.bytes n).1.pos ≤ q.s.size := by
  unfold St.bytes; split
  · exact h
  · split
    · exact h
    · split
      · exact h
      · show q.pos + n.toNat ≤ q.s.size
        omega
theorem St.bytes_none (q : St) (n : Int) (h : (q.bytes n).1.err ≠ 0) : (q.bytes n).2 = ⟨#[]⟩ ∧ (q.bytes n).1.pos = q.pos := by
  revert h
  unfold St.bytes; split
  · intro _; exact ⟨rfl, rfl⟩
  · split
    · intro _; exact ⟨rfl, rfl⟩
    · split
      · intro _; exact ⟨rfl, rfl⟩
      · intro h; exact absurd rfl h
theorem St.bytes_size (q : St) (n : Int) : (q.bytes n).2.size ≤ n.toNat := by
  unfold St.bytes; split
  · exact Nat.zero_le _
  · split
    · exact Nat.zero_le _
    · split
      · exact Nat.zero_le _
      · rw [ByteArray.size_extract]; omega
theorem St.number_out (q : St) (k : Int) (h : k < 0 ∨ 8 < k) : q.number k = (q.fail 1, 0) := by
  unfold St.number St.fail
  by_cases he : q.err = 0
  · rw [if_pos ⟨he, h⟩, if_pos he]
  · rw [if_neg (fun x => he x.1), if_neg he, St.bytes_err q _ he]
    rfl
theorem St.number_none (q : St) (k : Int) (h : ¬ (k < 0 ∨ 8 < k)) (hv : val (q.bytes (2 * k)).2.data.toList = none) : q.number k = ((q.bytes (2 * k)).1.back q.pos 6, 0) := by
  have he : (q.bytes (2 * k)).1.err = 0 := Decidable.byContradiction fun x => by
    rw [(St.bytes_none q _ x).1] at hv
    cases hv
  unfold St.number
  rw [if_neg (fun x => h x.2), hv, St.back, if_pos he, St.bytes_s]
theorem St.number_some (q : St) (k : Int) (n : Nat) (h : ¬ (k < 0 ∨ 8 < k)) (hv : val (q.bytes (2 * k)).2.data.toList = some n) : q.number k = ((q.bytes (2 * k)).1, n) := by
  unfold St.number
  rw [if_neg (fun x => h x.2), hv]
theorem St.back_s (q : St) (p : Nat) (e : Int) : (q.back p e).s = q.s := by unfold St.back; split <;> rfl
theorem St.back_le (q : St) (p : Nat) (e : Int) (m : Nat) (h : q.pos ≤ m) (hp : p ≤ m) : (q.back p e).pos ≤ m := by unfold St.back; split <;> assumption
theorem St.number_s (q : St) (k : Int) : (q.number k).1.s = q.s := by
  by_cases h : k < 0 ∨ 8 < k
  · rw [St.number_out q k h]; exact q.fail_s 1
  · cases hv : val (q.bytes (2 * k)).2.data.toList with
    | none => rw [St.number_none q k h hv, St.back_s, St.bytes_s]
    | some n => rw [St.number_some q k n h hv, St.bytes_s]
theorem St.number_le (q : St) (k : Int) (hq : q.pos ≤ q.s.size) : (q.number k).1.pos ≤ q.s.size := by
  by_cases h : k < 0 ∨ 8 < k
  · rw [St.number_out q k h]; show (q.fail 1).pos ≤ _; rw [q.fail_pos 1]; exact hq
  · cases hv : val (q.bytes (2 * k)).2.data.toList with
    | none => rw [St.number_none q k h hv]; exact St.back_le _ _ _ _ (St.bytes_le q _ hq) hq
    | some n => rw [St.number_some q k n h hv]; exact St.bytes_le q _ hq
theorem St.number_lt (q : St) (k : Int) (hk : ¬ (k < 0 ∨ 8 < k)) : (q.number k).2 < 16 ^ (2 * k).toNat := by
  have hp : 0 < 16 ^ (2 * k).toNat := Nat.pow_pos (by decide)
  cases hv : val (q.bytes (2 * k)).2.data.toList with
  | none => rw [St.number_none q k hk hv]; exact hp
  | some n =>
    rw [St.number_some q k n hk hv]
    have h1 := val_lt _ _ hv
    have h2 : (q.bytes (2 * k)).2.data.toList.length ≤ (2 * k).toNat := by have := q.bytes_size (2 * k); simpa using this
    exact Nat.lt_of_lt_of_le h1 (Nat.pow_le_pow_right (by decide) h2)
theorem St.number_bad (q : St) (k : Int) (h : (q.number k).1.err ≠ 0) : (q.number k).2 = 0 ∧ (q.number k).1.pos = q.pos := by
  by_cases hk : k < 0 ∨ 8 < k
  · rw [St.number_out q k hk]; exact ⟨rfl, q.fail_pos 1⟩
  · cases hv : val (q.bytes (2 * k)).2.data.toList with
    | none =>
      rw [St.number_none q k hk hv] at h ⊢
      refine ⟨rfl, ?_⟩
      show ((q.bytes (2 * k)).1.back q.pos 6).pos = q.pos
      unfold St.back; split
      · rfl
      · rename_i he
        exact (q.bytes_none _ he).2
    | some n =>
      rw [St.number_some q k n hk hv] at h ⊢
      have := q.bytes_none _ h
      rw [this.1] at hv
      cases hv
      exact ⟨rfl, this.2⟩
def St.count (q : St) (most : Int) : St × Nat :=
  if (q.number 4).1.err = 0 ∧ (most < 0 ∨ most < (q.number 4).2) then (⟨q.s, q.pos, 3⟩, 0) else q.number 4
def St.text (q : St) (most : Int) : St × ByteArray :=
  if ((q.count most).1.bytes (q.count most).2).1.err ≠ 0 ∧ q.err = 0 then (⟨q.s, q.pos, ((q.count most).1.bytes (q.count most).2).1.err⟩, ⟨#[]⟩)
  else (q.count most).1.bytes (q.count most).2
def St.bool (q : St) : St × Bool :=
  if (q.bytes 1).1.err = 0 ∧ (q.bytes 1).2 ≠ ⟨#[121]⟩ ∧ (q.bytes 1).2 ≠ ⟨#[110]⟩ then (⟨q.s, q.pos, 6⟩, false)
  else ((q.bytes 1).1, decide ((q.bytes 1).2 = ⟨#[121]⟩))
def St.fin (q : St) : St := if q.err = 0 ∧ q.pos < q.s.size then ⟨q.s, q.pos, 5⟩ else q
theorem St.count_no (q : St) (most : Int) (h : most < 0 ∨ most < (q.number 4).2) : q.count most = ((q.number 4).1.back q.pos 3, 0) := by
  unfold St.count St.back
  by_cases he : (q.number 4).1.err = 0
  · rw [if_pos ⟨he, h⟩, if_pos he, St.number_s]
  · rw [if_neg (fun x => he x.1), if_neg he]
    exact Prod.ext rfl (q.number_bad 4 he).1
theorem St.count_yes (q : St) (most : Int) (h : ¬ (most < 0 ∨ most < (q.number 4).2)) : q.count most = q.number 4 := by
  unfold St.count
  rw [if_neg (fun x => h x.2)]
theorem St.count_s (q : St) (most : Int) : (q.count most).1.s = q.s := by
  by_cases h : most < 0 ∨ most < (q.number 4).2
  · rw [St.count_no q most h, St.back_s, St.number_s]
  · rw [St.count_yes q most h, St.number_s]
theorem St.count_le (q : St) (most : Int) (hq : q.pos ≤ q.s.size) : (q.count most).1.pos ≤ q.s.size := by
  by_cases h : most < 0 ∨ most < (q.number 4).2
  · rw [St.count_no q most h]; exact St.back_le _ _ _ _ (q.number_le 4 hq) hq
  · rw [St.count_yes q most h]; exact q.number_le 4 hq
theorem St.count_lt (q : St) (most : Int) : (q.count most).2 < 4294967296 := by
  by_cases h : most < 0 ∨ most < (q.number 4).2
  · rw [St.count_no q most h]; exact (by decide : 0 < 4294967296)
  · rw [St.count_yes q most h]; exact q.number_lt 4 (by decide)
theorem St.back_pos (q : St) (p : Nat) (e : Int) (h : q.err ≠ 0 → q.pos = p) : (q.back p e).pos = p := by
  unfold St.back; split
  · rfl
  · exact h (by assumption)
theorem St.back_ne (q : St) (p : Nat) (e : Int) (he : e ≠ 0) : (q.back p e).err ≠ 0 := by unfold St.back; split <;> assumption
theorem St.count_bad (q : St) (most : Int) (h : (q.count most).1.err ≠ 0) : (q.count most).2 = 0 ∧ (q.count most).1.pos = q.pos := by
  by_cases hm : most < 0 ∨ most < (q.number 4).2
  · rw [St.count_no q most hm]; exact ⟨rfl, St.back_pos _ _ _ fun x => (q.number_bad 4 x).2⟩
  · rw [St.count_yes q most hm] at h ⊢; exact q.number_bad 4 h
theorem St.err_keeps (q : St) (he : q.err ≠ 0) (k : Int) : q.number k = (q, 0) := by
  by_cases hk : k < 0 ∨ 8 < k
  · rw [St.number_out q k hk, St.fail, if_neg he]
  · have hb := q.bytes_err (2 * k) he
    exact (St.number_some q k 0 hk (by rw [hb]; rfl)).trans (by rw [hb])
theorem St.count_err (q : St) (he : q.err ≠ 0) (most : Int) : q.count most = (q, 0) := by
  unfold St.count
  rw [St.err_keeps q he, if_neg (fun x => he x.1)]
theorem St.text_cut (q : St) (most : Int) (hq : q.pos ≤ q.s.size) (h : (q.s.size : Int) - (q.count most).1.pos < (q.count most).2) : q.text most = ((q.count most).1.back q.pos 4, ⟨#[]⟩) := by
  have hle := q.count_le most hq
  have h0 : (q.count most).1.err = 0 := Decidable.byContradiction fun x => by
    have := (q.count_bad most x).1
    omega
  have hq0 : q.err = 0 := Decidable.byContradiction fun x => by
    rw [St.count_err q x] at h0; exact x h0
  have hb := St.bytes_cut (q.count most).1 (q.count most).2 (by omega) (by rw [St.count_s]; exact h)
  unfold St.text
  rw [hb, St.fail, if_pos h0, if_pos ⟨(by decide : (4 : Int) ≠ 0), hq0⟩, St.back, if_pos h0, St.count_s]
theorem St.text_ok (q : St) (most : Int) (h : ¬ (q.s.size : Int) - (q.count most).1.pos < (q.count most).2) : q.text most = (q.count most).1.bytes (q.count most).2 := by
  unfold St.text
  split
  · rename_i hx
    by_cases h0 : (q.count most).1.err = 0
    · rw [St.bytes_ok _ _ h0 (by omega) (by rw [St.count_s]; exact h)] at hx
      exact absurd rfl hx.1
    · rw [St.bytes_err _ _ h0, ← (q.count_bad most h0).2, ← q.count_s most]
  · rfl
theorem St.bool_y (q : St) (h : (q.bytes 1).2 = ⟨#[121]⟩) : q.bool = ((q.bytes 1).1, true) := by
  unfold St.bool; rw [h, if_neg (fun x => x.2.1 rfl)]; rfl
theorem St.bool_n (q : St) (h : (q.bytes 1).2 = ⟨#[110]⟩) : q.bool = ((q.bytes 1).1, false) := by
  unfold St.bool; rw [h, if_neg (fun x => x.2.2 rfl)]; rfl
theorem St.bool_other (q : St) (hy : (q.bytes 1).2 ≠ ⟨#[121]⟩) (hn : (q.bytes 1).2 ≠ ⟨#[110]⟩) : q.bool = ((q.bytes 1).1.back q.pos 6, false) := by
  unfold St.bool St.back
  by_cases h0 : (q.bytes 1).1.err = 0
  · rw [if_pos ⟨h0, hy, hn⟩, if_pos h0, St.bytes_s]
  · rw [if_neg (fun x => h0 x.1), if_neg h0, decide_eq_false hy]
theorem St.text_s (q : St) (most : Int) : (q.text most).1.s = q.s := by
  unfold St.text; split
  · rfl
  · rw [St.bytes_s, St.count_s]
theorem St.text_le (q : St) (most : Int) (hq : q.pos ≤ q.s.size) : (q.text most).1.pos ≤ q.s.size := by
  unfold St.text; split
  · exact hq
  · have := St.bytes_le (q.count most).1 (q.count most).2 (by rw [St.count_s]; exact q.count_le most hq)
    rwa [St.count_s] at this
theorem St.bool_s (q : St) : q.bool.1.s = q.s := by
  unfold St.bool; split
  · rfl
  · exact q.bytes_s 1
theorem St.bool_le (q : St) (hq : q.pos ≤ q.s.size) : q.bool.1.pos ≤ q.s.size := by
  unfold St.bool; split
  · exact hq
  · exact q.bytes_le 1 hq
theorem St.fin_fail (q : St) (h : 0 < (q.s.size : Int) - q.pos) : q.fin = q.fail 5 := by
  unfold St.fin St.fail
  by_cases he : q.err = 0
  · rw [if_pos ⟨he, by omega⟩, if_pos he]
  · rw [if_neg (fun x => he x.1), if_neg he]
theorem St.fin_end (q : St) (h : ¬ 0 < (q.s.size : Int) - q.pos) : q.fin = q := by
  unfold St.fin
  rw [if_neg (fun x => h (by omega))]
end Go.Wire
