/- Several texts in one: WireMath, WireAt, WireTook, StampMath, StampAt, OpMath. -/
import Derived.Laws.Entries
import Derived.Laws.Bits64
import Derived.Laws.StructEq
/- Plain functions for numbers, texts, digests and frames in bytes, and for a reader that goes through bytes; no program text is named here. -/
namespace Go.Wire
/-! ### The check -/
def step (h : Nat) (c : UInt8) : Nat := (h ^^^ c.toNat) * 16777619 % 4294967296
def fnv (l : List UInt8) : Nat := l.foldl step 2166136261
theorem fold_snoc {α β : Type} (f : α → β → α) (l : List β) (c : β) (h : α) : (l ++ [c]).foldl f h = f (l.foldl f h) c := by simp
theorem fnv_snoc (l : List UInt8) (c : UInt8) : fnv (l ++ [c]) = step (fnv l) c := fold_snoc step l c 2166136261
theorem step_lt (h : Nat) (c : UInt8) : step h c < 4294967296 := Nat.mod_lt _ (by decide)
theorem fold_lt (l : List UInt8) (h : Nat) (hh : h < 4294967296) : l.foldl step h < 4294967296 := by
  induction l generalizing h with
  | nil => exact hh
  | cons c r ih => exact ih _ (step_lt _ _)
theorem fnv_lt (l : List UInt8) : fnv l < 4294967296 := fold_lt l _ (by decide)
theorem xor_lt (h : Nat) (c : UInt8) (hh : h < 4294967296) : h ^^^ c.toNat < 4294967296 :=
  Nat.xor_lt_two_pow (n := 32) hh (Nat.lt_trans c.toNat_lt (by decide))
theorem wrap_u32 (n : Int) : IntKind.u32.wrap n = n % 4294967296 := by simp [IntKind.wrap, IntKind.bits, IntKind.signed]
theorem wrap_u64 (n : Int) : IntKind.u64.wrap n = n % 18446744073709551616 := by simp [IntKind.wrap, IntKind.bits, IntKind.signed]
theorem xor_u32 (h : Nat) (c : UInt8) (hh : h < 4294967296) : bits .xor .u32 (h : Int) ((c.toNat : Nat) : Int) = ((h ^^^ c.toNat : Nat) : Int) := by
  have hx := xor_lt h c hh
  have hc := c.toNat_lt
  have h1 : (BitVec.ofInt 32 (h : Int)).toNat = h := by
    rw [BitVec.ofInt_natCast, BitVec.toNat_ofNat]; exact Nat.mod_eq_of_lt (by omega)
  have h2 : (BitVec.ofInt 32 (c.toNat : Int)).toNat = c.toNat := by
    rw [BitVec.ofInt_natCast, BitVec.toNat_ofNat]; exact Nat.mod_eq_of_lt (by omega)
  show IntKind.u32.wrap ((BitVec.ofInt 32 (h : Int) ^^^ BitVec.ofInt 32 (c.toNat : Int)).toNat : Int) = _
  rw [BitVec.toNat_xor, h1, h2, wrap_u32]
  omega
theorem xor_u64 (h : Nat) (c : UInt8) (hh : h < 4294967296) : bits .xor .u64 (h : Int) ((c.toNat : Nat) : Int) = ((h ^^^ c.toNat : Nat) : Int) :=
  bits_xor_u64_nat _ _ (by omega) (by have := c.toNat_lt; omega)
/-! ### Digits -/
def hexd (d : Nat) : UInt8 := if d < 10 then UInt8.ofNat (48 + d) else UInt8.ofNat (87 + d)
/-- The lowest k digits of n, the highest first. -/
def num : Nat → Nat → List UInt8
  | 0, _ => []
  | k + 1, n => num k (n / 16) ++ [hexd (n % 16)]
theorem num_length (k n : Nat) : (num k n).length = k := by
  induction k generalizing n with
  | zero => rfl
  | succ k ih => simp [num, ih]
def numB (k n : Nat) : ByteArray := ⟨(num k n).toArray⟩
theorem numB_size (k n : Nat) : (numB k n).size = k := by simp [numB, ByteArray.size, num_length]
theorem numB_list (k n : Nat) : (numB k n).data.toList = num k n := by simp [numB]
/-- The value of a digit. -/
def dig (c : UInt8) : Option Nat := if 48 ≤ c.toNat ∧ c.toNat ≤ 57 then some (c.toNat - 48) else if 97 ≤ c.toNat ∧ c.toNat ≤ 102 then some (c.toNat - 87) else none
theorem dig_hexd (d : Nat) (h : d < 16) : dig (hexd d) = some d := by
  have key : ∀ d, d < 16 → dig (hexd d) = some d := by decide
  exact key d h
theorem dig_lt {c : UInt8} {d : Nat} (h : dig c = some d) : d < 16 := by
  unfold dig at h; split at h
  · cases h; omega
  · split at h
    · cases h; omega
    · cases h
def vstep (o : Option Nat) (c : UInt8) : Option Nat := o.bind fun n => (dig c).map fun d => n * 16 + d
/-- The number that digits are. -/
def val (l : List UInt8) : Option Nat := l.foldl vstep (some 0)
theorem val_snoc (l : List UInt8) (c : UInt8) : val (l ++ [c]) = vstep (val l) c := by
  simp only [val, List.foldl_append, List.foldl_cons, List.foldl_nil]
theorem fold_none (l : List UInt8) : l.foldl vstep none = none := by
  induction l with
  | nil => rfl
  | cons c r ih => exact ih
theorem val_none {l r : List UInt8} {c : UInt8} (h : dig c = none) : val (l ++ c :: r) = none := by
  simp only [val, List.foldl_append, List.foldl_cons]
  have : vstep (l.foldl vstep (some 0)) c = none := by
    cases l.foldl vstep (some 0) <;> simp [vstep, h]
  rw [this, fold_none]
theorem fold_val_lt (l : List UInt8) : ∀ m n, l.foldl vstep (some m) = some n → n < (m + 1) * 16 ^ l.length := by
  induction l with
  | nil => intro m n h; cases h; simp
  | cons c r ih =>
    intro m n h
    rw [List.foldl_cons] at h
    cases hd : dig c with
    | none => rw [show vstep (some m) c = none by simp [vstep, hd], fold_none] at h; cases h
    | some d =>
      rw [show vstep (some m) c = some (m * 16 + d) by simp [vstep, hd]] at h
      have h1 := ih _ _ h
      have h2 := dig_lt hd
      have h3 : (m * 16 + d + 1) * 16 ^ r.length ≤ ((m + 1) * 16) * 16 ^ r.length := Nat.mul_le_mul_right _ (by omega)
      rw [List.length_cons, Nat.pow_succ, Nat.mul_comm (16 ^ r.length) 16, ← Nat.mul_assoc]
      omega
theorem val_lt (l : List UInt8) (n : Nat) (h : val l = some n) : n < 16 ^ l.length := by
  have := fold_val_lt l 0 n h
  simpa using this
theorem val_num (k n : Nat) : val (num k n) = some (n % 16 ^ k) := by
  induction k generalizing n with
  | zero => simp [num, val, Nat.mod_one]
  | succ k ih =>
    rw [num, val_snoc, ih]
    simp only [vstep, Option.bind_some, dig_hexd _ (Nat.mod_lt n (by decide : 16 > 0)), Option.map_some, Option.some.injEq]
    rw [Nat.pow_succ, Nat.mul_comm (16 ^ k) 16, Nat.mod_mul]
    omega
/-! ### A reader: bytes, how many were taken, the error -/
structure St where
  s : ByteArray
  pos : Nat
  err : Int
def St.fail (q : St) (e : Int) : St := if q.err = 0 then ⟨q.s, q.pos, e⟩ else q
def St.back (q : St) (p : Nat) (e : Int) : St := if q.err = 0 then ⟨q.s, p, e⟩ else q
def St.bytes (q : St) (n : Int) : St × ByteArray :=
  if q.err ≠ 0 then (q, ⟨#[]⟩) else if n < 0 then (⟨q.s, q.pos, 1⟩, ⟨#[]⟩) else if (q.s.size : Int) - q.pos < n then (⟨q.s, q.pos, 4⟩, ⟨#[]⟩)
  else (⟨q.s, q.pos + n.toNat, 0⟩, q.s.extract q.pos (q.pos + n.toNat))
theorem St.fail_ne (q : St) (e : Int) (he : e ≠ 0) : (q.fail e).err ≠ 0 := by unfold St.fail; split <;> assumption
theorem St.bytes_neg (q : St) (n : Int) (hn : n < 0) : q.bytes n = (q.fail 1, ⟨#[]⟩) := by
  unfold St.bytes St.fail; by_cases he : q.err = 0 <;> simp [he, hn]
theorem St.bytes_cut (q : St) (n : Int) (hn : ¬ n < 0) (hl : (q.s.size : Int) - q.pos < n) : q.bytes n = (q.fail 4, ⟨#[]⟩) := by
  unfold St.bytes St.fail; by_cases he : q.err = 0 <;> simp [he, hn, hl]
theorem St.bytes_err (q : St) (n : Int) (he : q.err ≠ 0) : q.bytes n = (q, ⟨#[]⟩) := by
  unfold St.bytes; simp [he]
theorem St.bytes_ok (q : St) (n : Int) (he : q.err = 0) (hn : ¬ n < 0) (hl : ¬ (q.s.size : Int) - q.pos < n) : q.bytes n = (⟨q.s, q.pos + n.toNat, 0⟩, q.s.extract q.pos (q.pos + n.toNat)) := by
  unfold St.bytes; simp [he, hn, hl]
def St.number (q : St) (k : Int) : St × Nat :=
  if q.err = 0 ∧ (k < 0 ∨ 8 < k) then (⟨q.s, q.pos, 1⟩, 0)
  else match val (q.bytes (2 * k)).2.data.toList with
    | none => (⟨q.s, q.pos, 6⟩, 0)
    | some n => ((q.bytes (2 * k)).1, n)
theorem St.fail_s (q : St) (e : Int) : (q.fail e).s = q.s := by unfold St.fail; split <;> rfl
theorem St.fail_pos (q : St) (e : Int) : (q.fail e).pos = q.pos := by unfold St.fail; split <;> rfl
theorem St.bytes_s (q : St) (n : Int) : (q.bytes n).1.s = q.s := by
  unfold St.bytes; split
  · rfl
  · split
    · rfl
    · split <;> rfl
theorem St.bytes_le (q : St) (n : Int) (h : q.pos ≤ q.s.size) : (q.bytes n).1.pos ≤ q.s.size := by
  unfold St.bytes; split
  · exact h
  · split
    · exact h
    · split
      · exact h
      · show q.pos + n.toNat ≤ q.s.size
        omega
theorem St.bytes_none (q : St) (n : Int) (h : (q.bytes n).1.err ≠ 0) : (q.bytes n).2 = ⟨#[]⟩ ∧ (q.bytes n).1.pos = q.pos := by
  revert h
  unfold St.bytes; split
  · intro _; exact ⟨rfl, rfl⟩
  · split
    · intro _; exact ⟨rfl, rfl⟩
    · split
      · intro _; exact ⟨rfl, rfl⟩
      · intro h; exact absurd rfl h
theorem St.bytes_size (q : St) (n : Int) : (q.bytes n).2.size ≤ n.toNat := by
  unfold St.bytes; split
  · exact Nat.zero_le _
  · split
    · exact Nat.zero_le _
    · split
      · exact Nat.zero_le _
      · rw [ByteArray.size_extract]; omega
theorem St.number_out (q : St) (k : Int) (h : k < 0 ∨ 8 < k) : q.number k = (q.fail 1, 0) := by
  unfold St.number St.fail
  by_cases he : q.err = 0
  · rw [if_pos ⟨he, h⟩, if_pos he]
  · rw [if_neg (fun x => he x.1), if_neg he, St.bytes_err q _ he]
    rfl
theorem St.number_none (q : St) (k : Int) (h : ¬ (k < 0 ∨ 8 < k)) (hv : val (q.bytes (2 * k)).2.data.toList = none) : q.number k = ((q.bytes (2 * k)).1.back q.pos 6, 0) := by
  have he : (q.bytes (2 * k)).1.err = 0 := Decidable.byContradiction fun x => by
    rw [(St.bytes_none q _ x).1] at hv
    cases hv
  unfold St.number
  rw [if_neg (fun x => h x.2), hv, St.back, if_pos he, St.bytes_s]
theorem St.number_some (q : St) (k : Int) (n : Nat) (h : ¬ (k < 0 ∨ 8 < k)) (hv : val (q.bytes (2 * k)).2.data.toList = some n) : q.number k = ((q.bytes (2 * k)).1, n) := by
  unfold St.number
  rw [if_neg (fun x => h x.2), hv]
theorem St.back_s (q : St) (p : Nat) (e : Int) : (q.back p e).s = q.s := by unfold St.back; split <;> rfl
theorem St.back_le (q : St) (p : Nat) (e : Int) (m : Nat) (h : q.pos ≤ m) (hp : p ≤ m) : (q.back p e).pos ≤ m := by unfold St.back; split <;> assumption
theorem St.number_s (q : St) (k : Int) : (q.number k).1.s = q.s := by
  by_cases h : k < 0 ∨ 8 < k
  · rw [St.number_out q k h]; exact q.fail_s 1
  · cases hv : val (q.bytes (2 * k)).2.data.toList with
    | none => rw [St.number_none q k h hv, St.back_s, St.bytes_s]
    | some n => rw [St.number_some q k n h hv, St.bytes_s]
theorem St.number_le (q : St) (k : Int) (hq : q.pos ≤ q.s.size) : (q.number k).1.pos ≤ q.s.size := by
  by_cases h : k < 0 ∨ 8 < k
  · rw [St.number_out q k h]; show (q.fail 1).pos ≤ _; rw [q.fail_pos 1]; exact hq
  · cases hv : val (q.bytes (2 * k)).2.data.toList with
    | none => rw [St.number_none q k h hv]; exact St.back_le _ _ _ _ (St.bytes_le q _ hq) hq
    | some n => rw [St.number_some q k n h hv]; exact St.bytes_le q _ hq
theorem St.number_lt (q : St) (k : Int) (hk : ¬ (k < 0 ∨ 8 < k)) : (q.number k).2 < 16 ^ (2 * k).toNat := by
  have hp : 0 < 16 ^ (2 * k).toNat := Nat.pow_pos (by decide)
  cases hv : val (q.bytes (2 * k)).2.data.toList with
  | none => rw [St.number_none q k hk hv]; exact hp
  | some n =>
    rw [St.number_some q k n hk hv]
    have h1 := val_lt _ _ hv
    have h2 : (q.bytes (2 * k)).2.data.toList.length ≤ (2 * k).toNat := by have := q.bytes_size (2 * k); simpa using this
    exact Nat.lt_of_lt_of_le h1 (Nat.pow_le_pow_right (by decide) h2)
theorem St.number_bad (q : St) (k : Int) (h : (q.number k).1.err ≠ 0) : (q.number k).2 = 0 ∧ (q.number k).1.pos = q.pos := by
  by_cases hk : k < 0 ∨ 8 < k
  · rw [St.number_out q k hk]; exact ⟨rfl, q.fail_pos 1⟩
  · cases hv : val (q.bytes (2 * k)).2.data.toList with
    | none =>
      rw [St.number_none q k hk hv] at h ⊢
      refine ⟨rfl, ?_⟩
      show ((q.bytes (2 * k)).1.back q.pos 6).pos = q.pos
      unfold St.back; split
      · rfl
      · rename_i he
        exact (q.bytes_none _ he).2
    | some n =>
      rw [St.number_some q k n hk hv] at h ⊢
      have := q.bytes_none _ h
      rw [this.1] at hv
      cases hv
      exact ⟨rfl, this.2⟩
def St.count (q : St) (most : Int) : St × Nat :=
  if (q.number 4).1.err = 0 ∧ (most < 0 ∨ most < (q.number 4).2) then (⟨q.s, q.pos, 3⟩, 0) else q.number 4
def St.text (q : St) (most : Int) : St × ByteArray :=
  if ((q.count most).1.bytes (q.count most).2).1.err ≠ 0 ∧ q.err = 0 then (⟨q.s, q.pos, ((q.count most).1.bytes (q.count most).2).1.err⟩, ⟨#[]⟩)
  else (q.count most).1.bytes (q.count most).2
def St.bool (q : St) : St × Bool :=
  if (q.bytes 1).1.err = 0 ∧ (q.bytes 1).2 ≠ ⟨#[121]⟩ ∧ (q.bytes 1).2 ≠ ⟨#[110]⟩ then (⟨q.s, q.pos, 6⟩, false)
  else ((q.bytes 1).1, decide ((q.bytes 1).2 = ⟨#[121]⟩))
def St.fin (q : St) : St := if q.err = 0 ∧ q.pos < q.s.size then ⟨q.s, q.pos, 5⟩ else q
theorem St.count_no (q : St) (most : Int) (h : most < 0 ∨ most < (q.number 4).2) : q.count most = ((q.number 4).1.back q.pos 3, 0) := by
  unfold St.count St.back
  by_cases he : (q.number 4).1.err = 0
  · rw [if_pos ⟨he, h⟩, if_pos he, St.number_s]
  · rw [if_neg (fun x => he x.1), if_neg he]
    exact Prod.ext rfl (q.number_bad 4 he).1
theorem St.count_yes (q : St) (most : Int) (h : ¬ (most < 0 ∨ most < (q.number 4).2)) : q.count most = q.number 4 := by
  unfold St.count
  rw [if_neg (fun x => h x.2)]
theorem St.count_s (q : St) (most : Int) : (q.count most).1.s = q.s := by
  by_cases h : most < 0 ∨ most < (q.number 4).2
  · rw [St.count_no q most h, St.back_s, St.number_s]
  · rw [St.count_yes q most h, St.number_s]
theorem St.count_le (q : St) (most : Int) (hq : q.pos ≤ q.s.size) : (q.count most).1.pos ≤ q.s.size := by
  by_cases h : most < 0 ∨ most < (q.number 4).2
  · rw [St.count_no q most h]; exact St.back_le _ _ _ _ (q.number_le 4 hq) hq
  · rw [St.count_yes q most h]; exact q.number_le 4 hq
theorem St.count_lt (q : St) (most : Int) : (q.count most).2 < 4294967296 := by
  by_cases h : most < 0 ∨ most < (q.number 4).2
  · rw [St.count_no q most h]; exact (by decide : 0 < 4294967296)
  · rw [St.count_yes q most h]; exact q.number_lt 4 (by decide)
theorem St.back_pos (q : St) (p : Nat) (e : Int) (h : q.err ≠ 0 → q.pos = p) : (q.back p e).pos = p := by
  unfold St.back; split
  · rfl
  · exact h (by assumption)
theorem St.back_ne (q : St) (p : Nat) (e : Int) (he : e ≠ 0) : (q.back p e).err ≠ 0 := by unfold St.back; split <;> assumption
theorem St.count_bad (q : St) (most : Int) (h : (q.count most).1.err ≠ 0) : (q.count most).2 = 0 ∧ (q.count most).1.pos = q.pos := by
  by_cases hm : most < 0 ∨ most < (q.number 4).2
  · rw [St.count_no q most hm]; exact ⟨rfl, St.back_pos _ _ _ fun x => (q.number_bad 4 x).2⟩
  · rw [St.count_yes q most hm] at h ⊢; exact q.number_bad 4 h
theorem St.err_keeps (q : St) (he : q.err ≠ 0) (k : Int) : q.number k = (q, 0) := by
  by_cases hk : k < 0 ∨ 8 < k
  · rw [St.number_out q k hk, St.fail, if_neg he]
  · have hb := q.bytes_err (2 * k) he
    exact (St.number_some q k 0 hk (by rw [hb]; rfl)).trans (by rw [hb])
theorem St.count_err (q : St) (he : q.err ≠ 0) (most : Int) : q.count most = (q, 0) := by
  unfold St.count
  rw [St.err_keeps q he, if_neg (fun x => he x.1)]
theorem St.text_cut (q : St) (most : Int) (hq : q.pos ≤ q.s.size) (h : (q.s.size : Int) - (q.count most).1.pos < (q.count most).2) : q.text most = ((q.count most).1.back q.pos 4, ⟨#[]⟩) := by
  have hle := q.count_le most hq
  have h0 : (q.count most).1.err = 0 := Decidable.byContradiction fun x => by
    have := (q.count_bad most x).1
    omega
  have hq0 : q.err = 0 := Decidable.byContradiction fun x => by
    rw [St.count_err q x] at h0; exact x h0
  have hb := St.bytes_cut (q.count most).1 (q.count most).2 (by omega) (by rw [St.count_s]; exact h)
  unfold St.text
  rw [hb, St.fail, if_pos h0, if_pos ⟨(by decide : (4 : Int) ≠ 0), hq0⟩, St.back, if_pos h0, St.count_s]
theorem St.text_ok (q : St) (most : Int) (h : ¬ (q.s.size : Int) - (q.count most).1.pos < (q.count most).2) : q.text most = (q.count most).1.bytes (q.count most).2 := by
  unfold St.text
  split
  · rename_i hx
    by_cases h0 : (q.count most).1.err = 0
    · rw [St.bytes_ok _ _ h0 (by omega) (by rw [St.count_s]; exact h)] at hx
      exact absurd rfl hx.1
    · rw [St.bytes_err _ _ h0, ← (q.count_bad most h0).2, ← q.count_s most]
  · rfl
theorem St.bool_y (q : St) (h : (q.bytes 1).2 = ⟨#[121]⟩) : q.bool = ((q.bytes 1).1, true) := by
  unfold St.bool; rw [h, if_neg (fun x => x.2.1 rfl)]; rfl
theorem St.bool_n (q : St) (h : (q.bytes 1).2 = ⟨#[110]⟩) : q.bool = ((q.bytes 1).1, false) := by
  unfold St.bool; rw [h, if_neg (fun x => x.2.2 rfl)]; rfl
theorem St.bool_other (q : St) (hy : (q.bytes 1).2 ≠ ⟨#[121]⟩) (hn : (q.bytes 1).2 ≠ ⟨#[110]⟩) : q.bool = ((q.bytes 1).1.back q.pos 6, false) := by
  unfold St.bool St.back
  by_cases h0 : (q.bytes 1).1.err = 0
  · rw [if_pos ⟨h0, hy, hn⟩, if_pos h0, St.bytes_s]
  · rw [if_neg (fun x => h0 x.1), if_neg h0, decide_eq_false hy]
theorem St.text_s (q : St) (most : Int) : (q.text most).1.s = q.s := by
  unfold St.text; split
  · rfl
  · rw [St.bytes_s, St.count_s]
theorem St.text_le (q : St) (most : Int) (hq : q.pos ≤ q.s.size) : (q.text most).1.pos ≤ q.s.size := by
  unfold St.text; split
  · exact hq
  · have := St.bytes_le (q.count most).1 (q.count most).2 (by rw [St.count_s]; exact q.count_le most hq)
    rwa [St.count_s] at this
theorem St.bool_s (q : St) : q.bool.1.s = q.s := by
  unfold St.bool; split
  · rfl
  · exact q.bytes_s 1
theorem St.bool_le (q : St) (hq : q.pos ≤ q.s.size) : q.bool.1.pos ≤ q.s.size := by
  unfold St.bool; split
  · exact hq
  · exact q.bytes_le 1 hq
theorem St.fin_fail (q : St) (h : 0 < (q.s.size : Int) - q.pos) : q.fin = q.fail 5 := by
  unfold St.fin St.fail
  by_cases he : q.err = 0
  · rw [if_pos ⟨he, by omega⟩, if_pos he]
  · rw [if_neg (fun x => he x.1), if_neg he]
theorem St.fin_end (q : St) (h : ¬ 0 < (q.s.size : Int) - q.pos) : q.fin = q := by
  unfold St.fin
  rw [if_neg (fun x => h (by omega))]
end Go.Wire
/- What was put is taken again: a reader at bytes and numbers that stand there; no program text is named here. -/
namespace Go.Wire
theorem app_list (a b : ByteArray) : (a ++ b).data.toList = a.data.toList ++ b.data.toList := by simp
theorem ext_list {a b : ByteArray} (h : a.data.toList = b.data.toList) : a = b := ByteArray.ext (Array.toList_inj.1 h)
theorem extract_list (s : ByteArray) (a b : Nat) : (s.extract a b).data.toList = (s.data.toList.drop a).take (b - a) := by
  rw [ByteArray.data_extract, Array.toList_extract]
theorem size_list (s : ByteArray) : s.size = s.data.toList.length := by simp
theorem extract_mid (A B C : ByteArray) : (A ++ B ++ C).extract A.size (A.size + B.size) = B := by
  apply ext_list
  rw [extract_list, app_list, app_list, List.append_assoc, size_list A, List.drop_left, Nat.add_sub_cancel_left, size_list B, List.take_left]
theorem extract_end (A B : ByteArray) : (A ++ B).extract A.size (A ++ B).size = B := by
  apply ext_list
  rw [extract_list, app_list, size_list A, List.drop_left, size_list (A ++ B), app_list, List.length_append, Nat.add_sub_cancel_left, List.take_length]
theorem bytes_at {q : St} {A B C : ByteArray} (hs : q.s = A ++ B ++ C) (hp : q.pos = A.size) (he : q.err = 0) (n : Int) (hn : n = B.size) : q.bytes n = (⟨q.s, A.size + B.size, 0⟩, B) := by
  have hz : q.s.size = A.size + B.size + C.size := by rw [hs, ByteArray.size_append, ByteArray.size_append]
  rw [St.bytes_ok q n he (by omega) (by omega), hp, hn, Int.toNat_natCast, hs, extract_mid]
theorem number_at {q : St} {A C : ByteArray} (k n : Nat) (hk : k ≤ 8) (hn : n < 16 ^ (2 * k)) (hs : q.s = A ++ numB (2 * k) n ++ C) (hp : q.pos = A.size) (he : q.err = 0) : q.number k = (⟨q.s, A.size + 2 * k, 0⟩, n) := by
  have hb := bytes_at hs hp he (2 * (k : Int)) (by rw [numB_size]; omega)
  have hv : val (q.bytes (2 * (k : Int))).2.data.toList = some n := by
    rw [hb, numB_list, val_num, Nat.mod_eq_of_lt hn]
  rw [St.number_some q k n (by omega) hv, hb, numB_size]
theorem and_small (n : Int) (c : Nat) (hc : c < 1000) : ∃ m : Nat, m ≤ c ∧ bits .and .i64 n (c : Int) = (m : Int) := by
  have h1 : (BitVec.ofInt 64 n &&& BitVec.ofInt 64 (c : Int)).toNat ≤ c := by
    rw [BitVec.toNat_and]
    refine Nat.le_trans Nat.and_le_right ?_
    simp
    omega
  refine ⟨(BitVec.ofInt 64 n &&& BitVec.ofInt 64 (c : Int)).toNat, h1, ?_⟩
  have e : bits .and .i64 n (c : Int) = IntKind.i64.wrap ((BitVec.ofInt 64 n &&& BitVec.ofInt 64 (c : Int)).toNat : Int) := rfl
  rw [e]
  generalize (BitVec.ofInt 64 n &&& BitVec.ofInt 64 (c : Int)).toNat = m at h1
  simp [IntKind.wrap, IntKind.bits, IntKind.signed]
  omega
end Go.Wire
/- Digits have one form; what a reader took; a reader ahead of bytes that are known; no program text is named here. -/
namespace Go.Wire
/-! ### Digits have one form -/
theorem hexd_dig {c : UInt8} {d : Nat} (h : dig c = some d) : hexd d = c := by
  have key : ∀ n : Fin 256, ∀ d : Fin 16, dig (UInt8.ofNat n.val) = some d.val → hexd d.val = UInt8.ofNat n.val := by decide +kernel
  have := key ⟨c.toNat, c.toNat_lt⟩ ⟨d, dig_lt h⟩
  simp only [UInt8.ofNat_toNat] at this
  exact this h
theorem num_val : ∀ (k : Nat) (l : List UInt8) (n : Nat), l.length = k → val l = some n → num k n = l := by
  intro k
  induction k with
  | zero => intro l n h _; rw [List.length_eq_zero_iff.1 h]; rfl
  | succ k ih =>
    intro l n hl hv
    rcases List.eq_nil_or_concat l with rfl | ⟨r, c, rfl⟩
    · cases hl
    · rw [List.concat_eq_append] at hl hv ⊢
      rw [val_snoc] at hv
      cases hr : val r with
      | none => rw [hr] at hv; cases hv
      | some m =>
        cases hd : dig c with
        | none => rw [hr] at hv; simp [vstep, hd] at hv
        | some d =>
          rw [hr] at hv
          simp only [vstep, Option.bind_some, hd, Option.map_some, Option.some.injEq] at hv
          have hd' := dig_lt hd
          subst hv
          rw [num, show (m * 16 + d) / 16 = m by omega, show (m * 16 + d) % 16 = d by omega, hexd_dig hd, ih r m (by simpa using hl) hr]
/-! ### What was taken without an error -/
/-- Between q and r the bytes l were taken. -/
structure Took (q : St) (l : List UInt8) (r : St) : Prop where
  s : r.s = q.s
  e0 : q.err = 0
  e1 : r.err = 0
  pos : r.pos = q.pos + l.length
  le : r.pos ≤ q.s.size
  l : (q.s.data.toList.drop q.pos).take l.length = l
theorem Took.trans {q r t : St} {l m : List UInt8} (a : Took q l r) (b : Took r m t) : Took q (l ++ m) t := by
  refine ⟨b.s.trans a.s, a.e0, b.e1, by rw [b.pos, a.pos, List.length_append]; omega, by have := b.le; rw [a.s] at this; exact this, ?_⟩
  have h := b.l
  rw [a.s, a.pos] at h
  rw [List.length_append, List.take_add, a.l, List.drop_drop, h]
theorem Took.all {s : ByteArray} {l : List UInt8} {r : St} (a : Took ⟨s, 0, 0⟩ l r) (h : s.size ≤ r.pos) : s = ⟨l.toArray⟩ := by
  have h1 := a.l
  have h2 := a.pos
  have h3 := a.le
  dsimp only at h1 h2 h3
  rw [List.drop_zero, Nat.zero_add] at *
  apply ext_list
  rw [List.take_of_length_le (by rw [← size_list]; omega)] at h1
  exact h1
theorem St.bytes_took {q : St} {n : Int} (hn : 0 ≤ n) (h : (q.bytes n).1.err = 0) : Took q (q.bytes n).2.data.toList (q.bytes n).1 ∧ ((q.bytes n).2.size : Int) = n := by
  have he : q.err = 0 := Decidable.byContradiction fun x => by rw [St.bytes_err q n x] at h; exact x h
  have hl : ¬ (q.s.size : Int) - q.pos < n := fun x => by
    rw [St.bytes_cut q n (by omega) x] at h
    exact absurd h (St.fail_ne _ _ (by decide))
  rw [St.bytes_ok q n he (by omega) hl]
  have hz : (q.s.extract q.pos (q.pos + n.toNat)).data.toList.length = n.toNat := by
    rw [extract_list, List.length_take, List.length_drop, ← size_list]
    omega
  refine ⟨⟨rfl, he, rfl, by show q.pos + n.toNat = _; rw [hz], by show q.pos + n.toNat ≤ _; omega, ?_⟩, ?_⟩
  · rw [hz, extract_list, Nat.add_sub_cancel_left]
  · show ((q.s.extract q.pos (q.pos + n.toNat)).size : Int) = n
    rw [size_list, hz]; omega
theorem St.number_took {q : St} {k : Nat} (hk : k ≤ 8) (h : (q.number k).1.err = 0) : Took q (num (2 * k) (q.number k).2) (q.number k).1 := by
  have hk' : ¬ ((k : Int) < 0 ∨ 8 < (k : Int)) := by omega
  cases hv : val (q.bytes (2 * (k : Int))).2.data.toList with
  | none => rw [St.number_none q k hk' hv] at h; exact absurd h (St.back_ne _ _ _ (by decide))
  | some n =>
    rw [St.number_some q k n hk' hv] at h ⊢
    obtain ⟨a, b⟩ := St.bytes_took (n := 2 * (k : Int)) (by omega) h
    rw [show num (2 * k) n = (q.bytes (2 * (k : Int))).2.data.toList from num_val _ _ _ (by rw [← size_list]; omega) hv]
    exact a
theorem St.count_took {q : St} {most : Int} (h : (q.count most).1.err = 0) : Took q (num 8 (q.count most).2) (q.count most).1 := by
  by_cases hm : most < 0 ∨ most < (q.number 4).2
  · rw [St.count_no q most hm] at h; exact absurd h (St.back_ne _ _ _ (by decide))
  · rw [St.count_yes q most hm] at h ⊢
    exact St.number_took (k := 4) (by decide) h
theorem St.text_took {q : St} {most : Int} (hq : q.pos ≤ q.s.size) (h : (q.text most).1.err = 0) : Took q (num 8 (q.text most).2.size ++ (q.text most).2.data.toList) (q.text most).1 := by
  by_cases hc : (q.s.size : Int) - (q.count most).1.pos < (q.count most).2
  · rw [St.text_cut q most hq hc] at h; exact absurd h (St.back_ne _ _ _ (by decide))
  · rw [St.text_ok q most hc] at h ⊢
    obtain ⟨a, b⟩ := St.bytes_took (by omega) h
    have e : ((q.count most).1.bytes (q.count most).2).2.size = (q.count most).2 := by omega
    have := St.count_took (q := q) (most := most) a.e0
    rw [← e] at this
    exact this.trans a
def letter (b : Bool) : UInt8 := if b then 121 else 110
theorem St.bool_took {q : St} (h : q.bool.1.err = 0) : Took q [letter q.bool.2] q.bool.1 := by
  by_cases hy : (q.bytes 1).2 = ⟨#[121]⟩
  · rw [St.bool_y q hy] at h ⊢
    have := (St.bytes_took (n := 1) (by decide) h).1
    rw [hy] at this
    exact this
  · by_cases hn : (q.bytes 1).2 = ⟨#[110]⟩
    · rw [St.bool_n q hn] at h ⊢
      have := (St.bytes_took (n := 1) (by decide) h).1
      rw [hn] at this
      exact this
    · rw [St.bool_other q hy hn] at h; exact absurd h (St.back_ne _ _ _ (by decide))
/-! ### A reader ahead of bytes that are known -/
/-- Behind A and ahead of C. -/
structure At (q : St) (A C : List UInt8) : Prop where
  s : q.s.data.toList = A ++ C
  pos : q.pos = A.length
  err : q.err = 0
def St.on (q : St) (n : Nat) : St := ⟨q.s, q.pos + n, 0⟩
theorem At.next {q : St} {A B C : List UInt8} (h : At q A (B ++ C)) : At (q.on B.length) (A ++ B) C :=
  ⟨by show q.s.data.toList = _; rw [h.s, List.append_assoc], by show q.pos + B.length = _; rw [h.pos, List.length_append], rfl⟩
theorem At.eq {q : St} {A B C : List UInt8} (h : At q A (B ++ C)) : q.s = (⟨A.toArray⟩ : ByteArray) ++ ⟨B.toArray⟩ ++ ⟨C.toArray⟩ := by
  apply ext_list; rw [app_list, app_list, h.s]; simp
theorem At.bytes {q : St} {A B C : List UInt8} (h : At q A (B ++ C)) (n : Int) (hn : n = B.length) : q.bytes n = (q.on B.length, ⟨B.toArray⟩) := by
  have := bytes_at h.eq (by rw [h.pos]; simp [ByteArray.size]) h.err n (by rw [hn]; simp [ByteArray.size])
  rw [this]
  unfold St.on
  rw [h.pos]
  simp [ByteArray.size]
theorem At.number {q : St} {A C : List UInt8} (k n : Nat) (hk : k ≤ 8) (hn : n < 16 ^ (2 * k)) (h : At q A (num (2 * k) n ++ C)) : q.number k = (q.on (2 * k), n) := by
  have := number_at (A := ⟨A.toArray⟩) (C := ⟨C.toArray⟩) k n hk hn h.eq (by rw [h.pos]; simp [ByteArray.size]) h.err
  rw [this]
  unfold St.on
  rw [h.pos]
  simp [ByteArray.size]
theorem At.count {q : St} {A C : List UInt8} (n : Nat) (most : Int) (hn : n < 4294967296) (hm : (n : Int) ≤ most) (h : At q A (num 8 n ++ C)) : q.count most = (q.on 8, n) := by
  have h4 : q.number 4 = (q.on 8, n) := At.number 4 n (by decide) hn h
  rw [St.count_yes q most (by rw [h4]; show ¬ (most < 0 ∨ most < (n : Int)); omega), h4]
theorem At.text {q : St} {A C : List UInt8} (t : ByteArray) (most : Int) (hn : t.size < 4294967296) (hm : (t.size : Int) ≤ most) (h : At q A (num 8 t.size ++ (t.data.toList ++ C))) : q.text most = (q.on (8 + t.size), t) := by
  have hc := At.count t.size most hn hm h
  have h8 := h.next
  rw [num_length] at h8
  have hb := At.bytes h8 t.size (by rw [size_list])
  have hl : q.s.size = A.length + (8 + (t.size + C.length)) := by rw [size_list, h.s]; simp [num_length]
  rw [St.text_ok q most (by rw [hc]; show ¬ ((q.s.size : Int) - ((q.pos + 8 : Nat) : Int) < (t.size : Nat)); rw [h.pos, hl]; omega), hc, hb]
  have e : (⟨t.data.toList.toArray⟩ : ByteArray) = t := by apply ext_list; simp
  rw [e, ← size_list]
  unfold St.on
  simp [Nat.add_assoc]
theorem At.bool {q : St} {A C : List UInt8} (b : Bool) (h : At q A ([letter b] ++ C)) : q.bool = (q.on 1, b) := by
  have hb := At.bytes h 1 rfl
  cases b
  · rw [St.bool_n q (by rw [hb]; rfl), hb]; rfl
  · rw [St.bool_y q (by rw [hb]; rfl), hb]; rfl
end Go.Wire
/- Times as plain numbers: a count and who it was; no program text is named here. -/
namespace Go.Stamp
/-- A time: its count and who it was. -/
structure Tm where
  c : Int
  k : Int
/-- What a time's numbers may be by their types. -/
structure Tm.Fits (t : Tm) : Prop where
  c0 : 0 ≤ t.c
  c1 : t.c ≤ 18446744073709551615
  k0 : -9223372036854775808 ≤ t.k
  k1 : t.k ≤ 9223372036854775807
def Tm.v (t : Tm) : Value := .agg #[.int .u64 t.c, .int .i64 t.k]
/-- May it be? -/
abbrev Tm.Ok (t : Tm) : Prop := 1 ≤ t.c ∧ t.c ≤ 281474976710655 ∧ 0 ≤ t.k ∧ t.k < 16
def Tm.chk (t : Tm) : Int := if t.Ok then 0 else 40
theorem Tm.chk_ok {t : Tm} (h : t.Ok) : t.chk = 0 := if_pos h
theorem Tm.chk_no {t : Tm} (h : ¬ t.Ok) : t.chk = 40 := if_neg h
def Tm.thing (t : Tm) : Int := if t.Ok then t.c * 16 + t.k else 0
theorem Tm.thing_ok {t : Tm} (h : t.Ok) : t.thing = t.c * 16 + t.k := if_pos h
theorem Tm.thing_no {t : Tm} (h : ¬ t.Ok) : t.thing = 0 := if_neg h
def Tm.cmp (a b : Tm) : Int := if a.c < b.c then -1 else if b.c < a.c then 1 else if a.k < b.k then -1 else if b.k < a.k then 1 else 0
abbrev Tm.before (a b : Tm) : Prop := a.c < b.c ∨ (a.c = b.c ∧ a.k < b.k)
/-- What a clock has seen behind a time. -/
def Tm.sees (t : Tm) (n : Int) : Int := if t.Ok then (if n < t.c then t.c else n) else n
theorem Tm.sees_le (t : Tm) (n : Int) (h : n ≤ 281474976710655) : n ≤ t.sees n ∧ t.sees n ≤ 281474976710655 := by
  unfold Tm.sees
  split
  · rename_i k
    unfold Tm.Ok at k
    split <;> omega
  · omega
theorem Tm.sees_ok (t : Tm) (n : Int) (h : t.Ok) : t.c ≤ t.sees n := by
  unfold Tm.sees
  rw [if_pos h]
  split <;> omega
theorem Tm.cmp_lt {a b : Tm} (h : a.c < b.c) : a.cmp b = -1 := if_pos h
def Tm.zero : Tm := ⟨0, 0⟩
end Go.Stamp
/- A time off a reader, as plain functions; no program text is named here. -/
namespace Go.Wire
open Go.Stamp
/-- A time off a reader. -/
def St.read (q : St) : Tm := ⟨((q.number 8).2 : Nat), (((q.number 8).1.number 1).2 : Nat)⟩
def St.stamp (q : St) : St × Tm :=
  let r := if q.read.Ok then ((q.number 8).1.number 1).1 else ((q.number 8).1.number 1).1.fail 40
  (r, if r.err = 0 then q.read else ⟨0, 0⟩)
theorem St.stamp_s (q : St) : q.stamp.1.s = q.s := by
  have h : ((q.number 8).1.number 1).1.s = q.s := by rw [St.number_s, St.number_s]
  unfold St.stamp
  dsimp only
  split
  · exact h
  · rw [St.fail_s, h]
theorem St.stamp_le (q : St) (hq : q.pos ≤ q.s.size) : q.stamp.1.pos ≤ q.s.size := by
  have h8 := q.number_le 8 hq
  have h : ((q.number 8).1.number 1).1.pos ≤ q.s.size := by
    have := (q.number 8).1.number_le 1 (by rw [St.number_s]; exact h8)
    rwa [St.number_s] at this
  unfold St.stamp
  dsimp only
  split
  · exact h
  · rw [St.fail_pos]; exact h
theorem St.read_fits (q : St) : q.read.c ≤ 18446744073709551615 ∧ 0 ≤ q.read.k ∧ q.read.k ≤ 255 ∧ 0 ≤ q.read.c := by
  have h1 := q.number_lt 8 (by decide)
  have h2 := (q.number 8).1.number_lt 1 (by decide)
  have e1 : (16 : Nat) ^ (2 * (8 : Int)).toNat = 18446744073709551616 := by decide
  have e2 : (16 : Nat) ^ (2 * (1 : Int)).toNat = 256 := by decide
  rw [e1] at h1
  rw [e2] at h2
  unfold St.read
  dsimp only
  omega
theorem nil_app (x : ByteArray) : (⟨#[]⟩ : ByteArray) ++ x = x := by apply ext_list; simp
theorem app_nil (x : ByteArray) : x ++ (⟨#[]⟩ : ByteArray) = x := by apply ext_list; simp
/-- A time that stands at a reader's place is taken. -/
theorem stamp_at {q : St} {A C : ByteArray} (c k : Nat) (hok : (Tm.mk c k).Ok) (hs : q.s = A ++ (numB 16 c ++ numB 2 k) ++ C) (hp : q.pos = A.size) (he : q.err = 0) : q.stamp = (⟨q.s, A.size + 18, 0⟩, ⟨c, k⟩) := by
  have h' := hok
  unfold Tm.Ok at h'
  dsimp only at h'
  have p8 : (16 : Nat) ^ (2 * 8) = 18446744073709551616 := by decide
  have p1 : (16 : Nat) ^ (2 * 1) = 256 := by decide
  have l8 : c < 16 ^ (2 * 8) := by rw [p8]; omega
  have l1 : k < 16 ^ (2 * 1) := by rw [p1]; omega
  have e8 : q.number 8 = (⟨q.s, A.size + 16, 0⟩, c) := number_at (A := A) (C := numB 2 k ++ C) 8 c (by decide) l8 (by rw [hs]; apply ext_list; simp only [app_list]; simp) hp he
  have e1 : (St.mk q.s (A.size + 16) 0).number 1 = (⟨q.s, A.size + 18, 0⟩, k) := by
    have := number_at (q := St.mk q.s (A.size + 16) 0) (A := A ++ numB 16 c) (C := C) 1 k (by decide) l1 (by show q.s = _; rw [hs]; apply ext_list; simp only [app_list]; simp) (by rw [ByteArray.size_append, numB_size]) rfl
    rw [ByteArray.size_append, numB_size] at this
    exact this
  have er : q.read = ⟨c, k⟩ := by
    unfold St.read
    rw [e8, e1]
  unfold St.stamp
  rw [er, if_pos hok, e8, e1]
  rfl
end Go.Wire
/- Operations as plain data, their bytes, and one off a reader; no program text is named here. -/
namespace Go.Wire
open Go.Stamp in
theorem St.stamp_took {q : St} (h : q.stamp.1.err = 0) : Took q (num 16 q.stamp.2.c.toNat ++ num 2 q.stamp.2.k.toNat) q.stamp.1 ∧ q.stamp.2.Ok := by
  have e : q.stamp = ((if q.read.Ok then ((q.number 8).1.number 1).1 else ((q.number 8).1.number 1).1.fail 40), if (if q.read.Ok then ((q.number 8).1.number 1).1 else ((q.number 8).1.number 1).1.fail 40).err = 0 then q.read else ⟨0, 0⟩) := rfl
  rw [e] at h ⊢
  clear e
  by_cases hok : q.read.Ok
  · rw [if_pos hok] at h ⊢
    rw [if_pos h]
    have a := St.number_took (k := 1) (by decide) h
    have b := St.number_took (k := 8) (by decide) a.e0
    exact ⟨b.trans a, hok⟩
  · rw [if_neg hok] at h
    exact absurd h (St.fail_ne _ _ (by decide))
open Go.Stamp in
theorem At.stamp {q : St} {A C : List UInt8} (c k : Nat) (hok : (Tm.mk c k).Ok) (h : At q A (num 16 c ++ num 2 k ++ C)) : q.stamp = (q.on 18, ⟨c, k⟩) := by
  have := stamp_at (q := q) (A := ⟨A.toArray⟩) (C := ⟨C.toArray⟩) c k hok (by apply ext_list; rw [h.s]; simp only [app_list, numB_list, List.append_assoc]) (by rw [h.pos]; simp [ByteArray.size]) h.err
  rw [this]
  unfold St.on
  rw [h.pos]
  simp [ByteArray.size]
end Go.Wire
namespace Go.Opn
open Go.Wire Go.Stamp
/-- An operation. -/
structure Ob where
  kind : Int
  tm : Tm
  thing : Int
  par : Int
  name : ByteArray
  dir : Bool
  dg : ByteArray
  size : Int
def Ob.v (o : Ob) : Value := .agg #[.int .i64 o.kind, .int .u64 o.tm.c, .int .i64 o.tm.k, .int .u64 o.thing, .int .u64 o.par, .string o.name, .bool o.dir, .string o.dg, .int .i64 o.size]
def Ob.zero : Ob := ⟨0, ⟨0, 0⟩, 0, 0, ⟨#[]⟩, false, ⟨#[]⟩, 0⟩
/-- What an operation's numbers may be by their types. -/
structure Ob.Fits (o : Ob) : Prop where
  kind : -9223372036854775808 ≤ o.kind ∧ o.kind ≤ 9223372036854775807
  tm : o.tm.Fits
  thing : 0 ≤ o.thing ∧ o.thing ≤ 18446744073709551615
  par : 0 ≤ o.par ∧ o.par ≤ 18446744073709551615
  name : o.name.size ≤ 9223372036854775807
  dg : o.dg.size ≤ 9223372036854775807
  size : -9223372036854775808 ≤ o.size ∧ o.size ≤ 9223372036854775807
def made (n : Int) : Bool := decide (16 ≤ n) && decide (n ≤ 4503599627370495)
def Ob.place (o : Ob) : Bool := (o.par == 0 || made o.par) && !(o.par == o.thing) && decide (1 ≤ o.name.size) && decide (o.name.size ≤ 32)
def Ob.fill (o : Ob) : Bool := o.dg.size == 32 && decide (0 ≤ o.size) && decide (o.size ≤ 8192)
def Ob.fits (o : Ob) : Bool :=
  if o.kind = 1 then o.thing == o.tm.thing && o.place else if o.kind = 2 then o.place else if o.kind = 3 then true else if o.kind = 4 then o.fill else false
def Ob.own (o : Ob) : Ob :=
  if o.kind = 1 then ⟨o.kind, o.tm, o.thing, o.par, o.name, o.dir, ⟨#[]⟩, 0⟩ else if o.kind = 2 then ⟨o.kind, o.tm, o.thing, o.par, o.name, false, ⟨#[]⟩, 0⟩
  else if o.kind = 4 then ⟨o.kind, o.tm, o.thing, 0, ⟨#[]⟩, false, o.dg, o.size⟩ else ⟨o.kind, o.tm, o.thing, 0, ⟨#[]⟩, false, ⟨#[]⟩, 0⟩
def Ob.eqb (a b : Ob) : Bool := a.kind == b.kind && ((a.tm.c == b.tm.c && (a.tm.k == b.tm.k && true)) && (a.thing == b.thing && (a.par == b.par && (a.name.toList == b.name.toList && (a.dir == b.dir && (a.dg.toList == b.dg.toList && (a.size == b.size && true)))))))
theorem toList_iff (x y : ByteArray) : x.toList = y.toList ↔ x = y := by
  rw [ByteArray.toList_eq, ByteArray.toList_eq]
  exact ⟨fun h => ext_list h, fun h => by rw [h]⟩
theorem Ob.eqb_iff (a b : Ob) : a.eqb b = true ↔ a = b := by
  obtain ⟨k, ⟨c, w⟩, t, p, n, d, g, z⟩ := a
  obtain ⟨k', ⟨c', w'⟩, t', p', n', d', g', z'⟩ := b
  simp only [Ob.eqb, Bool.and_eq_true, beq_iff_eq, Ob.mk.injEq, Tm.mk.injEq, toList_iff, and_true]
/-- May it be, its time apart? -/
def Ob.good (o : Ob) : Bool := made o.thing && o.fits && o.eqb o.own
abbrev Ob.Good (o : Ob) : Prop := o.good = true
def Ob.chk (o : Ob) : Int := if o.tm.Ok then (if o.Good then 0 else 50) else 40
theorem Ob.chk_ok {o : Ob} (h : o.tm.Ok) (g : o.Good) : o.chk = 0 := by unfold Ob.chk; rw [if_pos h, if_pos g]
theorem Ob.chk_bad {o : Ob} (h : o.tm.Ok) (g : ¬ o.Good) : o.chk = 50 := by unfold Ob.chk; rw [if_pos h, if_neg g]
theorem Ob.chk_no {o : Ob} (h : ¬ o.tm.Ok) : o.chk = 40 := by unfold Ob.chk; rw [if_neg h]
theorem Ob.chk_zero {o : Ob} (h : o.chk = 0) : o.tm.Ok ∧ o.Good := by
  by_cases a : o.tm.Ok
  · by_cases b : o.Good
    · exact ⟨a, b⟩
    · rw [Ob.chk_bad a b] at h; exact absurd h (by decide)
  · rw [Ob.chk_no a] at h; exact absurd h (by decide)
/-! ### Bytes -/
def Ob.head (o : Ob) : List UInt8 := num 2 o.kind.toNat ++ (num 16 o.tm.c.toNat ++ num 2 o.tm.k.toNat) ++ num 16 o.thing.toNat
def Ob.spot (o : Ob) : List UInt8 := num 16 o.par.toNat ++ (num 8 o.name.size ++ o.name.data.toList)
def Ob.bytes (o : Ob) : List UInt8 :=
  if o.kind = 1 then o.head ++ [letter o.dir] ++ o.spot else if o.kind = 2 then o.head ++ o.spot else if o.kind = 4 then o.head ++ o.dg.data.toList ++ num 8 o.size.toNat else o.head
def Ob.bytesB (o : Ob) : ByteArray := ⟨o.bytes.toArray⟩
/-! ### An operation off a reader -/
end Go.Opn
namespace Go.Wire
open Go.Stamp Go.Opn
def St.r1 (q : St) : St × Nat := q.number 1
def St.r2 (q : St) : St × Tm := q.r1.1.stamp
def St.r3 (q : St) : St × Nat := q.r2.1.number 8
def St.b0 (q : St) : Ob := ⟨q.r1.2, q.r2.2, q.r3.2, 0, ⟨#[]⟩, false, ⟨#[]⟩, 0⟩
def St.raw (q : St) : St × Ob :=
  if q.r1.2 = 1 then (((q.r3.1.bool.1.number 8).1.text 32).1, ⟨q.r1.2, q.r2.2, q.r3.2, (q.r3.1.bool.1.number 8).2, ((q.r3.1.bool.1.number 8).1.text 32).2, q.r3.1.bool.2, ⟨#[]⟩, 0⟩)
  else if q.r1.2 = 2 then (((q.r3.1.number 8).1.text 32).1, ⟨q.r1.2, q.r2.2, q.r3.2, (q.r3.1.number 8).2, ((q.r3.1.number 8).1.text 32).2, false, ⟨#[]⟩, 0⟩)
  else if q.r1.2 = 4 then (((q.r3.1.bytes 32).1.count 8192).1, ⟨q.r1.2, q.r2.2, q.r3.2, 0, ⟨#[]⟩, false, (q.r3.1.bytes 32).2, ((q.r3.1.bytes 32).1.count 8192).2⟩)
  else (q.r3.1, q.b0)
def St.op (q : St) : St × Ob := (q.raw.1.fail q.raw.2.chk, if (q.raw.1.fail q.raw.2.chk).err = 0 then q.raw.2 else Ob.zero)
theorem St.fail_zero {q : St} {e : Int} (h : (q.fail e).err = 0) : e = 0 ∧ q.err = 0 ∧ q.fail e = q := by
  unfold St.fail at h ⊢
  by_cases he : q.err = 0
  · rw [if_pos he] at h ⊢
    dsimp only at h
    subst h
    exact ⟨rfl, he, by cases q; simp_all⟩
  · rw [if_neg he] at h; exact absurd h he
theorem St.r3_s (q : St) : q.r3.1.s = q.s := by unfold St.r3 St.r2 St.r1; rw [St.number_s, St.stamp_s, St.number_s]
theorem St.r1_le (q : St) (h : q.pos ≤ q.s.size) : q.r1.1.pos ≤ q.r1.1.s.size := by unfold St.r1; rw [St.number_s]; exact q.number_le 1 h
theorem St.r2_le (q : St) (h : q.pos ≤ q.s.size) : q.r2.1.pos ≤ q.r2.1.s.size := by unfold St.r2; rw [St.stamp_s]; exact St.stamp_le _ (q.r1_le h)
theorem St.r3_le (q : St) (h : q.pos ≤ q.s.size) : q.r3.1.pos ≤ q.r3.1.s.size := by unfold St.r3; rw [St.number_s]; exact St.number_le _ _ (q.r2_le h)
theorem St.raw_s (q : St) : q.raw.1.s = q.s := by
  unfold St.raw
  split
  · show (((q.r3.1.bool.1.number 8).1.text 32).1).s = _
    rw [St.text_s, St.number_s, St.bool_s, St.r3_s]
  · split
    · show (((q.r3.1.number 8).1.text 32).1).s = _
      rw [St.text_s, St.number_s, St.r3_s]
    · split
      · show (((q.r3.1.bytes 32).1.count 8192).1).s = _
        rw [St.count_s, St.bytes_s, St.r3_s]
      · exact q.r3_s
theorem St.raw_le (q : St) (h : q.pos ≤ q.s.size) : q.raw.1.pos ≤ q.s.size := by
  have h3 := q.r3_le h
  rw [St.r3_s] at h3
  have hs := q.r3_s
  unfold St.raw
  split
  · show (((q.r3.1.bool.1.number 8).1.text 32).1).pos ≤ _
    have a := q.r3.1.bool_le (by rw [hs]; exact h3)
    have b := q.r3.1.bool.1.number_le 8 (by rw [St.bool_s]; exact a)
    have c := (q.r3.1.bool.1.number 8).1.text_le 32 (by rw [St.number_s]; exact b)
    rw [St.number_s, St.bool_s, hs] at c
    exact c
  · split
    · show (((q.r3.1.number 8).1.text 32).1).pos ≤ _
      have b := q.r3.1.number_le 8 (by rw [hs]; exact h3)
      have c := (q.r3.1.number 8).1.text_le 32 (by rw [St.number_s]; exact b)
      rw [St.number_s, hs] at c
      exact c
    · split
      · show (((q.r3.1.bytes 32).1.count 8192).1).pos ≤ _
        have a := q.r3.1.bytes_le 32 (by rw [hs]; exact h3)
        have b := (q.r3.1.bytes 32).1.count_le 8192 (by rw [St.bytes_s]; exact a)
        rw [St.bytes_s, hs] at b
        exact b
      · exact h3
theorem St.op_s (q : St) : q.op.1.s = q.s := by show (q.raw.1.fail q.raw.2.chk).s = _; rw [St.fail_s, St.raw_s]
theorem St.op_le (q : St) (h : q.pos ≤ q.s.size) : q.op.1.pos ≤ q.s.size := by show (q.raw.1.fail q.raw.2.chk).pos ≤ _; rw [St.fail_pos]; exact q.raw_le h
/-- What was taken as an operation without an error is its bytes, and it may be. -/
theorem St.op_took {q : St} (hq : q.pos ≤ q.s.size) (h : q.op.1.err = 0) : Took q q.op.2.bytes q.op.1 ∧ q.op.2.tm.Ok ∧ q.op.2.Good := by
  have h' : (q.raw.1.fail q.raw.2.chk).err = 0 := h
  obtain ⟨h1, h2, h3⟩ := St.fail_zero h'
  have e1 : q.op.1 = q.raw.1 := h3
  have e2 : q.op.2 = q.raw.2 := by show (if _ then _ else _) = _; rw [if_pos h']
  rw [e1, e2]
  refine ⟨?_, Ob.chk_zero h1⟩
  clear h h' h1 h3 e1 e2
  have b1 := q.r1_le hq
  have b3 := q.r3_le hq
  have base : q.r3.1.err = 0 → Took q q.b0.head q.r3.1 := fun h => by
    have t3 := St.number_took (q := q.r2.1) (k := 8) (by decide) h
    have t2 := (St.stamp_took (q := q.r1.1) t3.e0).1
    have t1 := St.number_took (q := q) (k := 1) (by decide) t2.e0
    have := (t1.trans t2).trans t3
    rw [List.append_assoc] at this
    unfold Ob.head
    rw [List.append_assoc]
    exact this
  unfold St.raw at h2 ⊢
  by_cases k1 : q.r1.2 = 1
  · rw [if_pos k1] at h2 ⊢
    have t6 := St.text_took (q := (q.r3.1.bool.1.number 8).1) (most := 32) (by rw [St.number_s]; exact St.number_le _ _ (by rw [St.bool_s]; exact St.bool_le _ b3)) h2
    have t5 := St.number_took (q := q.r3.1.bool.1) (k := 8) (by decide) t6.e0
    have t4 := St.bool_took (q := q.r3.1) t5.e0
    have := ((base t4.e0).trans t4).trans (t5.trans t6)
    unfold Ob.bytes
    rw [if_pos (show ((q.r1.2 : Int) = 1) by omega)]
    exact this
  · rw [if_neg k1] at h2 ⊢
    by_cases k2 : q.r1.2 = 2
    · rw [if_pos k2] at h2 ⊢
      have t6 := St.text_took (q := (q.r3.1.number 8).1) (most := 32) (by rw [St.number_s]; exact St.number_le _ _ b3) h2
      have t5 := St.number_took (q := q.r3.1) (k := 8) (by decide) t6.e0
      have := (base t5.e0).trans (t5.trans t6)
      unfold Ob.bytes
      rw [if_neg (show ¬ ((q.r1.2 : Int) = 1) by omega), if_pos (show ((q.r1.2 : Int) = 2) by omega)]
      exact this
    · rw [if_neg k2] at h2 ⊢
      by_cases k4 : q.r1.2 = 4
      · rw [if_pos k4] at h2 ⊢
        have t6 := St.count_took (q := (q.r3.1.bytes 32).1) (most := 8192) h2
        have t5 := (St.bytes_took (q := q.r3.1) (n := 32) (by decide) t6.e0).1
        have := ((base t5.e0).trans t5).trans t6
        unfold Ob.bytes
        rw [if_neg (show ¬ ((q.r1.2 : Int) = 1) by omega), if_neg (show ¬ ((q.r1.2 : Int) = 2) by omega), if_pos (show ((q.r1.2 : Int) = 4) by omega)]
        exact this
      · rw [if_neg k4] at h2 ⊢
        have e1 : ¬ ((q.r1.2 : Int) = 1) := by omega
        have e2 : ¬ ((q.r1.2 : Int) = 2) := by omega
        have e4 : ¬ ((q.r1.2 : Int) = 4) := by omega
        unfold Ob.bytes
        rw [if_neg (show ¬ q.b0.kind = 1 from e1), if_neg (show ¬ q.b0.kind = 2 from e2), if_neg (show ¬ q.b0.kind = 4 from e4)]
        exact base h2
end Go.Wire
namespace Go.Opn
open Go.Wire Go.Stamp
/-! ### What an operation that may be is -/
theorem made_iff (n : Int) : made n = true ↔ 16 ≤ n ∧ n ≤ 4503599627370495 := by simp [made]
structure Ob.Is (o : Ob) : Prop where
  thing : 16 ≤ o.thing ∧ o.thing ≤ 4503599627370495
  par : 0 ≤ o.par ∧ o.par ≤ 4503599627370495
  name : o.name.size ≤ 32
  size : 0 ≤ o.size ∧ o.size ≤ 8192
  dg : o.dg.size ≤ 32
  kind : (o.kind = 1 ∧ o.dg = ⟨#[]⟩ ∧ o.size = 0) ∨ (o.kind = 2 ∧ o.dg = ⟨#[]⟩ ∧ o.size = 0 ∧ o.dir = false) ∨ (o.kind = 3 ∧ o.par = 0 ∧ o.name = ⟨#[]⟩ ∧ o.dg = ⟨#[]⟩ ∧ o.size = 0 ∧ o.dir = false) ∨ (o.kind = 4 ∧ o.par = 0 ∧ o.name = ⟨#[]⟩ ∧ o.dir = false ∧ o.dg.size = 32)
theorem Ob.place_is {o : Ob} (h : o.place = true) : (0 ≤ o.par ∧ o.par ≤ 4503599627370495) ∧ o.name.size ≤ 32 := by
  simp only [Ob.place, Bool.and_eq_true, Bool.or_eq_true, beq_iff_eq, decide_eq_true_eq, made_iff] at h
  omega
theorem Ob.fill_is {o : Ob} (h : o.fill = true) : (0 ≤ o.size ∧ o.size ≤ 8192) ∧ o.dg.size = 32 := by
  simp only [Ob.fill, Bool.and_eq_true, beq_iff_eq, decide_eq_true_eq] at h
  omega
theorem Ob.good_is {o : Ob} (h : o.Good) : o.Is := by
  unfold Ob.Good Ob.good at h
  rw [Bool.and_eq_true, Bool.and_eq_true, made_iff, Ob.eqb_iff] at h
  obtain ⟨⟨h1, h2⟩, h3⟩ := h
  obtain ⟨k, t, th, p, n, d, g, z⟩ := o
  unfold Ob.own at h3
  unfold Ob.fits at h2
  dsimp only at h1 h2 h3
  have e0 : (⟨#[]⟩ : ByteArray).size = 0 := rfl
  by_cases k1 : k = 1
  · rw [if_pos k1] at h2 h3
    rw [Bool.and_eq_true] at h2
    have := Ob.place_is h2.2
    simp only [Ob.mk.injEq, true_and] at h3
    exact ⟨h1, this.1, this.2, by show 0 ≤ z ∧ z ≤ 8192; omega, by show g.size ≤ 32; rw [h3.1, e0]; omega, .inl ⟨k1, h3.1, h3.2⟩⟩
  · rw [if_neg k1] at h2 h3
    by_cases k2 : k = 2
    · rw [if_pos k2] at h2 h3
      have := Ob.place_is h2
      simp only [Ob.mk.injEq, true_and] at h3
      exact ⟨h1, this.1, this.2, by show 0 ≤ z ∧ z ≤ 8192; omega, by show g.size ≤ 32; rw [h3.2.1, e0]; omega, .inr (.inl ⟨k2, h3.2.1, h3.2.2, h3.1⟩)⟩
    · rw [if_neg k2] at h2 h3
      by_cases k4 : k = 4
      · rw [if_neg (by omega), if_pos k4] at h2
        rw [if_pos k4] at h3
        have := Ob.fill_is h2
        simp only [Ob.mk.injEq, true_and, and_true] at h3
        exact ⟨h1, by show 0 ≤ p ∧ p ≤ 4503599627370495; omega, by show n.size ≤ 32; rw [h3.2.1, e0]; omega, this.1, Nat.le_of_eq this.2, .inr (.inr (.inr ⟨k4, h3.1, h3.2.1, h3.2.2, this.2⟩))⟩
      · rw [if_neg k4] at h3
        by_cases k3 : k = 3
        · simp only [Ob.mk.injEq, true_and] at h3
          exact ⟨h1, by show 0 ≤ p ∧ p ≤ 4503599627370495; omega, by show n.size ≤ 32; rw [h3.2.1, e0]; omega, by show 0 ≤ z ∧ z ≤ 8192; omega, by show g.size ≤ 32; rw [h3.2.2.2.1, e0]; omega, .inr (.inr (.inl ⟨k3, h3.1, h3.2.1, h3.2.2.2.1, h3.2.2.2.2, h3.2.2.1⟩))⟩
        · rw [if_neg k3, if_neg k4] at h2
          cases h2
theorem Ob.head_length (o : Ob) : o.head.length = 36 := by simp [Ob.head, num_length]
theorem Ob.bytes_length {o : Ob} (h : o.Is) : o.bytes.length ≤ 100 := by
  have h1 := h.name
  have h2 := h.dg
  unfold Ob.bytes
  have e : o.spot.length = 24 + o.name.size := by simp [Ob.spot, num_length]; omega
  split
  · rw [List.length_append, List.length_append, o.head_length, e, List.length_singleton]; omega
  · split
    · rw [List.length_append, o.head_length, e]; omega
    · split
      · rw [List.length_append, List.length_append, o.head_length, num_length, ← size_list]; omega
      · rw [o.head_length]; omega
theorem on_on (q : St) (a b : Nat) : (q.on a).on b = q.on (a + b) := by unfold St.on; simp [Nat.add_assoc]
/-- An operation that stands at a reader's place is taken. -/
theorem head_at {q : St} {A C : List UInt8} {o : Ob} (hk : 0 ≤ o.kind ∧ o.kind < 256) (hok : o.tm.Ok) (ht : 0 ≤ o.thing ∧ o.thing ≤ 4503599627370495) (h : At q A (o.head ++ C)) :
    q.r1 = (q.on 2, o.kind.toNat) ∧ q.r2 = (q.on 20, o.tm) ∧ q.r3 = (q.on 36, o.thing.toNat) ∧ At (q.on 36) (A ++ o.head) C := by
  have hn := h.next
  rw [o.head_length] at hn
  unfold Ob.head at h
  have h' := hok
  unfold Tm.Ok at h'
  have a1 : At q A (num (2 * 1) o.kind.toNat ++ (num 16 o.tm.c.toNat ++ num 2 o.tm.k.toNat ++ (num 16 o.thing.toNat ++ C))) := by simpa using h
  have e1 : q.r1 = (q.on 2, o.kind.toNat) := At.number 1 _ (by decide) (by rw [show (16 : Nat) ^ (2 * 1) = 256 by decide]; omega) a1
  have a2 := a1.next
  rw [num_length] at a2
  have et : (Tm.mk (o.tm.c.toNat : Nat) (o.tm.k.toNat : Nat)) = o.tm := by
    obtain ⟨k, ⟨c, w⟩, t, p, n, d, g, z⟩ := o
    dsimp only at h' ⊢
    rw [Tm.mk.injEq]
    omega
  have e2 : q.r2 = (q.on 20, o.tm) := by
    unfold St.r2
    rw [e1]
    have := At.stamp o.tm.c.toNat o.tm.k.toNat (by rw [et]; exact hok) a2
    rw [et, on_on] at this
    exact this
  have a3 := a2.next
  rw [List.length_append, num_length, num_length, on_on] at a3
  have e3 : q.r3 = (q.on 36, o.thing.toNat) := by
    unfold St.r3
    rw [e2]
    have := At.number (q := q.on 20) (C := C) 8 o.thing.toNat (by decide) (by rw [show (16 : Nat) ^ (2 * 8) = 18446744073709551616 by decide]; omega) a3
    rw [on_on] at this
    exact this
  exact ⟨e1, e2, e3, hn⟩
set_option maxHeartbeats 1000000 in
theorem op_at {q : St} {A C : List UInt8} {o : Ob} (hok : o.tm.Ok) (hg : o.Good) (h : At q A (o.bytes ++ C)) : q.op = (q.on o.bytes.length, o) := by
  have i := Ob.good_is hg
  have key : q.raw = (q.on o.bytes.length, o) := by
    have hk : 0 ≤ o.kind ∧ o.kind < 256 := by rcases i.kind with x | x | x | x <;> omega
    have et : ((o.thing.toNat : Nat) : Int) = o.thing := by have := i.thing; omega
    have ep : ((o.par.toNat : Nat) : Int) = o.par := by have := i.par; omega
    have ez : ((o.size.toNat : Nat) : Int) = o.size := by have := i.size; omega
    have ek : ((o.kind.toNat : Nat) : Int) = o.kind := by omega
    have hl := Ob.head_length o
    have hpar := i.par
    rcases i.kind with ⟨k, hd, hz⟩ | ⟨k, hd, hz, hdir⟩ | ⟨k, hp, hn, hd, hz, hdir⟩ | ⟨k, hp, hn, hdir, hdg⟩
    · have eb : o.bytes = o.head ++ [letter o.dir] ++ o.spot := by unfold Ob.bytes; rw [if_pos k]
      rw [eb] at h ⊢
      obtain ⟨e1, e2, e3, a⟩ := head_at (C := [letter o.dir] ++ (o.spot ++ C)) hk hok ⟨by have := i.thing; omega, i.thing.2⟩ (by simpa using h)
      have b4 := At.bool o.dir a
      have a4 := a.next
      rw [List.length_singleton, on_on] at a4
      rw [on_on] at b4
      have a5 : At (q.on 37) (A ++ o.head ++ [letter o.dir]) (num (2 * 8) o.par.toNat ++ (num 8 o.name.size ++ (o.name.data.toList ++ C))) := by unfold Ob.spot at a4; simpa using a4
      have b5 : (q.on (36 + 1)).number 8 = _ := At.number 8 o.par.toNat (by decide) (by rw [show (16 : Nat) ^ (2 * 8) = 18446744073709551616 by decide]; omega) a5
      have a6 := a5.next
      rw [num_length, on_on] at a6
      rw [on_on] at b5
      have b6 := At.text o.name 32 (by have := i.name; omega) (by have := i.name; omega) a6
      rw [on_on] at b6
      unfold St.raw
      rw [e1, e2, e3, if_pos (by show o.kind.toNat = 1; omega)]
      dsimp only
      rw [b4]
      dsimp only
      rw [b5]
      dsimp only
      rw [b6, et, ep, ek]
      rw [List.length_append, List.length_append, hl]
      unfold Ob.spot
      rw [List.length_append, List.length_append, num_length, num_length, ← size_list, List.length_singleton]
      obtain ⟨k', t', th', p', n', d', g', z'⟩ := o
      dsimp only at hd hz ⊢
      rw [hd, hz]
      refine Prod.ext (congrArg q.on ?_) rfl
      omega
    · have eb : o.bytes = o.head ++ o.spot := by unfold Ob.bytes; rw [if_neg (by omega), if_pos k]
      rw [eb] at h ⊢
      obtain ⟨e1, e2, e3, a⟩ := head_at (C := o.spot ++ C) hk hok ⟨by have := i.thing; omega, i.thing.2⟩ (by simpa using h)
      have a5 : At (q.on 36) (A ++ o.head) (num (2 * 8) o.par.toNat ++ (num 8 o.name.size ++ (o.name.data.toList ++ C))) := by unfold Ob.spot at a; simpa using a
      have b5 : (q.on 36).number 8 = _ := At.number 8 o.par.toNat (by decide) (by rw [show (16 : Nat) ^ (2 * 8) = 18446744073709551616 by decide]; omega) a5
      have a6 := a5.next
      rw [num_length, on_on] at a6
      rw [on_on] at b5
      have b6 := At.text o.name 32 (by have := i.name; omega) (by have := i.name; omega) a6
      rw [on_on] at b6
      unfold St.raw
      rw [e1, e2, e3, if_neg (by show ¬ o.kind.toNat = 1; omega), if_pos (by show o.kind.toNat = 2; omega)]
      dsimp only
      rw [b5]
      dsimp only
      rw [b6, et, ep, ek]
      rw [List.length_append, hl]
      unfold Ob.spot
      rw [List.length_append, List.length_append, num_length, num_length, ← size_list]
      obtain ⟨k', t', th', p', n', d', g', z'⟩ := o
      dsimp only at hd hz hdir ⊢
      rw [hd, hz, hdir]
      refine Prod.ext (congrArg q.on ?_) rfl
      omega
    · have eb : o.bytes = o.head := by unfold Ob.bytes; rw [if_neg (by omega), if_neg (by omega), if_neg (by omega)]
      rw [eb] at h ⊢
      obtain ⟨e1, e2, e3, a⟩ := head_at (C := C) hk hok ⟨by have := i.thing; omega, i.thing.2⟩ h
      unfold St.raw St.b0
      rw [e1, e2, e3, if_neg (by show ¬ o.kind.toNat = 1; omega), if_neg (by show ¬ o.kind.toNat = 2; omega), if_neg (by show ¬ o.kind.toNat = 4; omega)]
      dsimp only
      rw [et, ek, hl]
      obtain ⟨k', t', th', p', n', d', g', z'⟩ := o
      dsimp only at hp hn hd hz hdir ⊢
      rw [hp, hn, hd, hz, hdir]
    · have eb : o.bytes = o.head ++ o.dg.data.toList ++ num 8 o.size.toNat := by unfold Ob.bytes; rw [if_neg (by omega), if_neg (by omega), if_pos k]
      rw [eb] at h ⊢
      obtain ⟨e1, e2, e3, a⟩ := head_at (C := o.dg.data.toList ++ (num 8 o.size.toNat ++ C)) hk hok ⟨by have := i.thing; omega, i.thing.2⟩ (by simpa using h)
      have b4 := At.bytes a 32 (by rw [← size_list, hdg]; rfl)
      have a4 := a.next
      rw [← size_list, hdg, on_on] at a4 b4
      have b5 := At.count o.size.toNat 8192 (by have := i.size; omega) (by have := i.size; omega) a4
      rw [on_on] at b5
      unfold St.raw
      rw [e1, e2, e3, if_neg (by show ¬ o.kind.toNat = 1; omega), if_neg (by show ¬ o.kind.toNat = 2; omega), if_pos (by show o.kind.toNat = 4; omega)]
      dsimp only
      rw [b4]
      dsimp only
      rw [b5, et, ek, ez]
      rw [List.length_append, List.length_append, hl, num_length, ← size_list, hdg]
      obtain ⟨k', t', th', p', n', d', g', z'⟩ := o
      dsimp only at hp hn hdir ⊢
      rw [hp, hn, hdir]
  unfold St.op
  rw [key]
  dsimp only
  rw [Ob.chk_ok hok hg]
  have e : (q.on o.bytes.length).fail 0 = q.on o.bytes.length := by unfold St.fail; rw [if_pos (show (q.on o.bytes.length).err = 0 from rfl)]; rfl
  rw [e, if_pos (show (q.on o.bytes.length).err = 0 from rfl)]
theorem bytes_inj {a b : Ob} (ha : a.tm.Ok) (ga : a.Good) (hb : b.tm.Ok) (gb : b.Good) (h : a.bytes = b.bytes) : a = b := by
  have h1 := op_at (q := ⟨⟨a.bytes.toArray⟩, 0, 0⟩) (A := []) (C := []) ha ga ⟨by simp, rfl, rfl⟩
  have h2 := op_at (q := ⟨⟨a.bytes.toArray⟩, 0, 0⟩) (A := []) (C := []) hb gb ⟨by simp [h], rfl, rfl⟩
  rw [h1] at h2
  exact (Prod.mk.inj h2).2
end Go.Opn
