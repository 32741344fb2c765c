/- Several texts in one: WireMath, MerkleMath. -/
import Derived.Laws.Entries
import Derived.Laws.Bits64
import Derived.Test.YtigkemkebceacaaDoorPureSha
/- Plain functions for numbers, texts, digests and frames in bytes, and for a reader that goes through bytes; no program text is named here. -/
namespace Go.Wire
/-! ### The check -/
def step (h : Nat) (c : UInt8) : Nat := (h ^^^ c.toNat) * 16777619 % 4294967296
def fnv (l : List UInt8) : Nat := l.foldl step 2166136261
theorem fold_snoc {α β : Type} (f : α → β → α) (l : List β) (c : β) (h : α) : (l ++ [c]).foldl f h = f (l.foldl f h) c := by simp
theorem fnv_snoc (l : List UInt8) (c : UInt8) : fnv (l ++ [c]) = step (fnv l) c := fold_snoc step l c 2166136261
theorem step_lt (h : Nat) (c : UInt8) : step h c < 4294967296 := Nat.mod_lt _ (by decide)
theorem fold_lt (l : List UInt8) (h : Nat) (hh : h < 4294967296) : l.foldl step h < 4294967296 := by
  induction l generalizing h with
  | nil => exact hh
  | cons c r ih => exact ih _ (step_lt _ _)
theorem fnv_lt (l : List UInt8) : fnv l < 4294967296 := fold_lt l _ (by decide)
theorem xor_lt (h : Nat) (c : UInt8) (hh : h < 4294967296) : h ^^^ c.toNat < 4294967296 :=
  Nat.xor_lt_two_pow (n := 32) hh (Nat.lt_trans c.toNat_lt (by decide))
theorem wrap_u32 (n : Int) : IntKind.u32.wrap n = n % 4294967296 := by simp [IntKind.wrap, IntKind.bits, IntKind.signed]
theorem wrap_u64 (n : Int) : IntKind.u64.wrap n = n % 18446744073709551616 := by simp [IntKind.wrap, IntKind.bits, IntKind.signed]
theorem xor_u32 (h : Nat) (c : UInt8) (hh : h < 4294967296) : bits .xor .u32 (h : Int) ((c.toNat : Nat) : Int) = ((h ^^^ c.toNat : Nat) : Int) := by
  have hx := xor_lt h c hh
  have hc := c.toNat_lt
  have h1 : (BitVec.ofInt 32 (h : Int)).toNat = h := by
    rw [BitVec.ofInt_natCast, BitVec.toNat_ofNat]; exact Nat.mod_eq_of_lt (by omega)
  have h2 : (BitVec.ofInt 32 (c.toNat : Int)).toNat = c.toNat := by
    rw [BitVec.ofInt_natCast, BitVec.toNat_ofNat]; exact Nat.mod_eq_of_lt (by omega)
  show IntKind.u32.wrap ((BitVec.ofInt 32 (h : Int) ^^^ BitVec.ofInt 32 (c.toNat : Int)).toNat : Int) = _
  rw [BitVec.toNat_xor, h1, h2, wrap_u32]
  omega
theorem xor_u64 (h : Nat) (c : UInt8) (hh : h < 4294967296) : bits .xor .u64 (h : Int) ((c.toNat : Nat) : Int) = ((h ^^^ c.toNat : Nat) : Int) :=
  bits_xor_u64_nat _ _ (by omega) (by have := c.toNat_lt; omega)
/-! ### Digits -/
def hexd (d : Nat) : UInt8 := if d < 10 then UInt8.ofNat (48 + d) else UInt8.ofNat (87 + d)
/-- The lowest k digits of n, the highest first. -/
def num : Nat → Nat → List UInt8
  | 0, _ => []
  | k + 1, n => num k (n / 16) ++ [hexd (n % 16)]
theorem num_length (k n : Nat) : (num k n).length = k := by
  induction k generalizing n with
  | zero => rfl
  | succ k ih => simp [num, ih]
def numB (k n : Nat) : ByteArray := ⟨(num k n).toArray⟩
theorem numB_size (k n : Nat) : (numB k n).size = k := by simp [numB, ByteArray.size, num_length]
theorem numB_list (k n : Nat) : (numB k n).data.toList = num k n := by simp [numB]
/-- The value of a digit. -/
def dig (c : UInt8) : Option Nat := if 48 ≤ c.toNat ∧ c.toNat ≤ 57 then some (c.toNat - 48) else if 97 ≤ c.toNat ∧ c.toNat ≤ 102 then some (c.toNat - 87) else none
theorem dig_hexd (d : Nat) (h : d < 16) : dig (hexd d) = some d := by
  have key : ∀ d, d < 16 → dig (hexd d) = some d := by decide
  exact key d h
theorem dig_lt {c : UInt8} {d : Nat} (h : dig c = some d) : d < 16 := by
  unfold dig at h; split at h
  · cases h; omega
  · split at h
    · cases h; omega
    · cases h
def vstep (o : Option Nat) (c : UInt8) : Option Nat := o.bind fun n => (dig c).map fun d => n * 16 + d
/-- The number that digits are. -/
def val (l : List UInt8) : Option Nat := l.foldl vstep (some 0)
theorem val_snoc (l : List UInt8) (c : UInt8) : val (l ++ [c]) = vstep (val l) c := by
  simp only [val, List.foldl_append, List.foldl_cons, List.foldl_nil]
theorem fold_none (l : List UInt8) : l.foldl vstep none = none := by
  induction l with
  | nil => rfl
  | cons c r ih => exact ih
theorem val_none {l r : List UInt8} {c : UInt8} (h : dig c = none) : val (l ++ c :: r) = none := by
  simp only [val, List.foldl_append, List.foldl_cons]
  have : vstep (l.foldl vstep (some 0)) c = none := by
    cases l.foldl vstep (some 0) <;> simp [vstep, h]
  rw [this, fold_none]
theorem fold_val_lt (l : List UInt8) : ∀ m n, l.foldl vstep (some m) = some n → n < (m + 1) * 16 ^ l.length := by
  induction l with
  | nil => intro m n h; cases h; simp
  | cons c r ih =>
    intro m n h
    rw [List.foldl_cons] at h
    cases hd : dig c with
    | none => rw [show vstep (some m) c = none by simp [vstep, hd], fold_none] at h; cases h
    | some d =>
      rw [show vstep (some m) c = some (m * 16 + d) by simp [vstep, hd]] at h
      have h1 := ih _ _ h
      have h2 := dig_lt hd
      have h3 : (m * 16 + d + 1) * 16 ^ r.length ≤ ((m + 1) * 16) * 16 ^ r.length := Nat.mul_le_mul_right _ (by omega)
      rw [List.length_cons, Nat.pow_succ, Nat.mul_comm (16 ^ r.length) 16, ← Nat.mul_assoc]
      omega
theorem val_lt (l : List UInt8) (n : Nat) (h : val l = some n) : n < 16 ^ l.length := by
  have := fold_val_lt l 0 n h
  simpa using this
theorem val_num (k n : Nat) : val (num k n) = some (n % 16 ^ k) := by
  induction k generalizing n with
  | zero => simp [num, val, Nat.mod_one]
  | succ k ih =>
    rw [num, val_snoc, ih]
    simp only [vstep, Option.bind_some, dig_hexd _ (Nat.mod_lt n (by decide : 16 > 0)), Option.map_some, Option.some.injEq]
    rw [Nat.pow_succ, Nat.mul_comm (16 ^ k) 16, Nat.mod_mul]
    omega
/-! ### A reader: bytes, how many were taken, the error -/
structure St where
  s : ByteArray
  pos : Nat
  err : Int
def St.fail (q : St) (e : Int) : St := if q.err = 0 then ⟨q.s, q.pos, e⟩ else q
def St.back (q : St) (p : Nat) (e : Int) : St := if q.err = 0 then ⟨q.s, p, e⟩ else q
def St.bytes (q : St) (n : Int) : St × ByteArray :=
  if q.err ≠ 0 then (q, ⟨#[]⟩) else if n < 0 then (⟨q.s, q.pos, 1⟩, ⟨#[]⟩) else if (q.s.size : Int) - q.pos < n then (⟨q.s, q.pos, 4⟩, ⟨#[]⟩)
  else (⟨q.s, q.pos + n.toNat, 0⟩, q.s.extract q.pos (q.pos + n.toNat))
theorem St.fail_ne (q : St) (e : Int) (he : e ≠ 0) : (q.fail e).err ≠ 0 := by unfold St.fail; split <;> assumption
theorem St.bytes_neg (q : St) (n : Int) (hn : n < 0) : q.bytes n = (q.fail 1, ⟨#[]⟩) := by
  unfold St.bytes St.fail; by_cases he : q.err = 0 <;> simp [he, hn]
theorem St.bytes_cut (q : St) (n : Int) (hn : ¬ n < 0) (hl : (q.s.size : Int) - q.pos < n) : q.bytes n = (q.fail 4, ⟨#[]⟩) := by
  unfold St.bytes St.fail; by_cases he : q.err = 0 <;> simp [he, hn, hl]
theorem St.bytes_err (q : St) (n : Int) (he : q.err ≠ 0) : q.bytes n = (q, ⟨#[]⟩) := by
  unfold St.bytes; simp [he]
theorem St.bytes_ok (q : St) (n : Int) (he : q.err = 0) (hn : ¬ n < 0) (hl : ¬ (q.s.size : Int) - q.pos < n) : q.bytes n = (⟨q.s, q.pos + n.toNat, 0⟩, q.s.extract q.pos (q.pos + n.toNat)) := by
  unfold St.bytes; simp [he, hn, hl]
def St.number (q : St) (k : Int) : St × Nat :=
  if q.err = 0 ∧ (k < 0 ∨ 8 < k) then (⟨q.s, q.pos, 1⟩, 0)
  else match val (q.bytes (2 * k)).2.data.toList with
    | none => (⟨q.s, q.pos, 6⟩, 0)
    | some n => ((q.bytes (2 * k)).1, n)
theorem St.fail_s (q : St) (e : Int) : (q.fail e).s = q.s := by unfold St.fail; split <;> rfl
theorem St.fail_pos (q : St) (e : Int) : (q.fail e).pos = q.pos := by unfold St.fail; split <;> rfl
theorem St.bytes_s (q : St) (n : Int) : (q.bytes n).1.s = q.s := by
  unfold St.bytes; split
  · rfl
  · split
    · rfl
    · split <;> rfl
theorem St.bytes_le (q : St) (n : Int) (h : q.pos ≤ q.s.size) : (q.bytes n).1.pos ≤ q.s.size := by
  unfold St.bytes; split
  · exact h
  · split
    · exact h
    · split
      · exact h
      · show q.pos + n.toNat ≤ q.s.size
        omega
theorem St.bytes_none (q : St) (n : Int) (h : (q.bytes n).1.err ≠ 0) : (q.bytes n).2 = ⟨#[]⟩ ∧ (q.bytes n).1.pos = q.pos := by
  revert h
  unfold St.bytes; split
  · intro _; exact ⟨rfl, rfl⟩
  · split
    · intro _; exact ⟨rfl, rfl⟩
    · split
      · intro _; exact ⟨rfl, rfl⟩
      · intro h; exact absurd rfl h
theorem St.bytes_size (q : St) (n : Int) : (q.bytes n).2.size ≤ n.toNat := by
  unfold St.bytes; split
  · exact Nat.zero_le _
  · split
    · exact Nat.zero_le _
    · split
      · exact Nat.zero_le _
      · rw [ByteArray.size_extract]; omega
theorem St.number_out (q : St) (k : Int) (h : k < 0 ∨ 8 < k) : q.number k = (q.fail 1, 0) := by
  unfold St.number St.fail
  by_cases he : q.err = 0
  · rw [if_pos ⟨he, h⟩, if_pos he]
  · rw [if_neg (fun x => he x.1), if_neg he, St.bytes_err q _ he]
    rfl
theorem St.number_none (q : St) (k : Int) (h : ¬ (k < 0 ∨ 8 < k)) (hv : val (q.bytes (2 * k)).2.data.toList = none) : q.number k = ((q.bytes (2 * k)).1.back q.pos 6, 0) := by
  have he : (q.bytes (2 * k)).1.err = 0 := Decidable.byContradiction fun x => by
    rw [(St.bytes_none q _ x).1] at hv
    cases hv
  unfold St.number
  rw [if_neg (fun x => h x.2), hv, St.back, if_pos he, St.bytes_s]
theorem St.number_some (q : St) (k : Int) (n : Nat) (h : ¬ (k < 0 ∨ 8 < k)) (hv : val (q.bytes (2 * k)).2.data.toList = some n) : q.number k = ((q.bytes (2 * k)).1, n) := by
  unfold St.number
  rw [if_neg (fun x => h x.2), hv]
theorem St.back_s (q : St) (p : Nat) (e : Int) : (q.back p e).s = q.s := by unfold St.back; split <;> rfl
theorem St.back_le (q : St) (p : Nat) (e : Int) (m : Nat) (h : q.pos ≤ m) (hp : p ≤ m) : (q.back p e).pos ≤ m := by unfold St.back; split <;> assumption
theorem St.number_s (q : St) (k : Int) : (q.number k).1.s = q.s := by
  by_cases h : k < 0 ∨ 8 < k
  · rw [St.number_out q k h]; exact q.fail_s 1
  · cases hv : val (q.bytes (2 * k)).2.data.toList with
    | none => rw [St.number_none q k h hv, St.back_s, St.bytes_s]
    | some n => rw [St.number_some q k n h hv, St.bytes_s]
theorem St.number_le (q : St) (k : Int) (hq : q.pos ≤ q.s.size) : (q.number k).1.pos ≤ q.s.size := by
  by_cases h : k < 0 ∨ 8 < k
  · rw [St.number_out q k h]; show (q.fail 1).pos ≤ _; rw [q.fail_pos 1]; exact hq
  · cases hv : val (q.bytes (2 * k)).2.data.toList with
    | none => rw [St.number_none q k h hv]; exact St.back_le _ _ _ _ (St.bytes_le q _ hq) hq
    | some n => rw [St.number_some q k n h hv]; exact St.bytes_le q _ hq
theorem St.number_lt (q : St) (k : Int) (hk : ¬ (k < 0 ∨ 8 < k)) : (q.number k).2 < 16 ^ (2 * k).toNat := by
  have hp : 0 < 16 ^ (2 * k).toNat := Nat.pow_pos (by decide)
  cases hv : val (q.bytes (2 * k)).2.data.toList with
  | none => rw [St.number_none q k hk hv]; exact hp
  | some n =>
    rw [St.number_some q k n hk hv]
    have h1 := val_lt _ _ hv
    have h2 : (q.bytes (2 * k)).2.data.toList.length ≤ (2 * k).toNat := by have := q.bytes_size (2 * k); simpa using this
    exact Nat.lt_of_lt_of_le h1 (Nat.pow_le_pow_right (by decide) h2)
theorem St.number_bad (q : St) (k : Int) (h : (q.number k).1.err ≠ 0) : (q.number k).2 = 0 ∧ (q.number k).1.pos = q.pos := by
  by_cases hk : k < 0 ∨ 8 < k
  · rw [St.number_out q k hk]; exact ⟨rfl, q.fail_pos 1⟩
  · cases hv : val (q.bytes (2 * k)).2.data.toList with
    | none =>
      rw [St.number_none q k hk hv] at h ⊢
      refine ⟨rfl, ?_⟩
      show ((q.bytes (2 * k)).1.back q.pos 6).pos = q.pos
      unfold St.back; split
      · rfl
      · rename_i he
        exact (q.bytes_none _ he).2
    | some n =>
      rw [St.number_some q k n hk hv] at h ⊢
      have := q.bytes_none _ h
      rw [this.1] at hv
      cases hv
      exact ⟨rfl, this.2⟩
def St.count (q : St) (most : Int) : St × Nat :=
  if (q.number 4).1.err = 0 ∧ (most < 0 ∨ most < (q.number 4).2) then (⟨q.s, q.pos, 3⟩, 0) else q.number 4
def St.text (q : St) (most : Int) : St × ByteArray :=
  if ((q.count most).1.bytes (q.count most).2).1.err ≠ 0 ∧ q.err = 0 then (⟨q.s, q.pos, ((q.count most).1.bytes (q.count most).2).1.err⟩, ⟨#[]⟩)
  else (q.count most).1.bytes (q.count most).2
def St.bool (q : St) : St × Bool :=
  if (q.bytes 1).1.err = 0 ∧ (q.bytes 1).2 ≠ ⟨#[121]⟩ ∧ (q.bytes 1).2 ≠ ⟨#[110]⟩ then (⟨q.s, q.pos, 6⟩, false)
  else ((q.bytes 1).1, decide ((q.bytes 1).2 = ⟨#[121]⟩))
def St.fin (q : St) : St := if q.err = 0 ∧ q.pos < q.s.size then ⟨q.s, q.pos, 5⟩ else q
theorem St.count_no (q : St) (most : Int) (h : most < 0 ∨ most < (q.number 4).2) : q.count most = ((q.number 4).1.back q.pos 3, 0) := by
  unfold St.count St.back
  by_cases he : (q.number 4).1.err = 0
  · rw [if_pos ⟨he, h⟩, if_pos he, St.number_s]
  · rw [if_neg (fun x => he x.1), if_neg he]
    exact Prod.ext rfl (q.number_bad 4 he).1
theorem St.count_yes (q : St) (most : Int) (h : ¬ (most < 0 ∨ most < (q.number 4).2)) : q.count most = q.number 4 := by
  unfold St.count
  rw [if_neg (fun x => h x.2)]
theorem St.count_s (q : St) (most : Int) : (q.count most).1.s = q.s := by
  by_cases h : most < 0 ∨ most < (q.number 4).2
  · rw [St.count_no q most h, St.back_s, St.number_s]
  · rw [St.count_yes q most h, St.number_s]
theorem St.count_le (q : St) (most : Int) (hq : q.pos ≤ q.s.size) : (q.count most).1.pos ≤ q.s.size := by
  by_cases h : most < 0 ∨ most < (q.number 4).2
  · rw [St.count_no q most h]; exact St.back_le _ _ _ _ (q.number_le 4 hq) hq
  · rw [St.count_yes q most h]; exact q.number_le 4 hq
theorem St.count_lt (q : St) (most : Int) : (q.count most).2 < 4294967296 := by
  by_cases h : most < 0 ∨ most < (q.number 4).2
  · rw [St.count_no q most h]; exact (by decide : 0 < 4294967296)
  · rw [St.count_yes q most h]; exact q.number_lt 4 (by decide)
theorem St.back_pos (q : St) (p : Nat) (e : Int) (h : q.err ≠ 0 → q.pos = p) : (q.back p e).pos = p := by
  unfold St.back; split
  · rfl
  · exact h (by assumption)
theorem St.back_ne (q : St) (p : Nat) (e : Int) (he : e ≠ 0) : (q.back p e).err ≠ 0 := by unfold St.back; split <;> assumption
theorem St.count_bad (q : St) (most : Int) (h : (q.count most).1.err ≠ 0) : (q.count most).2 = 0 ∧ (q.count most).1.pos = q.pos := by
  by_cases hm : most < 0 ∨ most < (q.number 4).2
  · rw [St.count_no q most hm]; exact ⟨rfl, St.back_pos _ _ _ fun x => (q.number_bad 4 x).2⟩
  · rw [St.count_yes q most hm] at h ⊢; exact q.number_bad 4 h
theorem St.err_keeps (q : St) (he : q.err ≠ 0) (k : Int) : q.number k = (q, 0) := by
  by_cases hk : k < 0 ∨ 8 < k
  · rw [St.number_out q k hk, St.fail, if_neg he]
  · have hb := q.bytes_err (2 * k) he
    exact (St.number_some q k 0 hk (by rw [hb]; rfl)).trans (by rw [hb])
theorem St.count_err (q : St) (he : q.err ≠ 0) (most : Int) : q.count most = (q, 0) := by
  unfold St.count
  rw [St.err_keeps q he, if_neg (fun x => he x.1)]
theorem St.text_cut (q : St) (most : Int) (hq : q.pos ≤ q.s.size) (h : (q.s.size : Int) - (q.count most).1.pos < (q.count most).2) : q.text most = ((q.count most).1.back q.pos 4, ⟨#[]⟩) := by
  have hle := q.count_le most hq
  have h0 : (q.count most).1.err = 0 := Decidable.byContradiction fun x => by
    have := (q.count_bad most x).1
    omega
  have hq0 : q.err = 0 := Decidable.byContradiction fun x => by
    rw [St.count_err q x] at h0; exact x h0
  have hb := St.bytes_cut (q.count most).1 (q.count most).2 (by omega) (by rw [St.count_s]; exact h)
  unfold St.text
  rw [hb, St.fail, if_pos h0, if_pos ⟨(by decide : (4 : Int) ≠ 0), hq0⟩, St.back, if_pos h0, St.count_s]
theorem St.text_ok (q : St) (most : Int) (h : ¬ (q.s.size : Int) - (q.count most).1.pos < (q.count most).2) : q.text most = (q.count most).1.bytes (q.count most).2 := by
  unfold St.text
  split
  · rename_i hx
    by_cases h0 : (q.count most).1.err = 0
    · rw [St.bytes_ok _ _ h0 (by omega) (by rw [St.count_s]; exact h)] at hx
      exact absurd rfl hx.1
    · rw [St.bytes_err _ _ h0, ← (q.count_bad most h0).2, ← q.count_s most]
  · rfl
theorem St.bool_y (q : St) (h : (q.bytes 1).2 = ⟨#[121]⟩) : q.bool = ((q.bytes 1).1, true) := by
  unfold St.bool; rw [h, if_neg (fun x => x.2.1 rfl)]; rfl
theorem St.bool_n (q : St) (h : (q.bytes 1).2 = ⟨#[110]⟩) : q.bool = ((q.bytes 1).1, false) := by
  unfold St.bool; rw [h, if_neg (fun x => x.2.2 rfl)]; rfl
theorem St.bool_other (q : St) (hy : (q.bytes 1).2 ≠ ⟨#[121]⟩) (hn : (q.bytes 1).2 ≠ ⟨#[110]⟩) : q.bool = ((q.bytes 1).1.back q.pos 6, false) := by
  unfold St.bool St.back
  by_cases h0 : (q.bytes 1).1.err = 0
  · rw [if_pos ⟨h0, hy, hn⟩, if_pos h0, St.bytes_s]
  · rw [if_neg (fun x => h0 x.1), if_neg h0, decide_eq_false hy]
theorem St.text_s (q : St) (most : Int) : (q.text most).1.s = q.s := by
  unfold St.text; split
  · rfl
  · rw [St.bytes_s, St.count_s]
theorem St.text_le (q : St) (most : Int) (hq : q.pos ≤ q.s.size) : (q.text most).1.pos ≤ q.s.size := by
  unfold St.text; split
  · exact hq
  · have := St.bytes_le (q.count most).1 (q.count most).2 (by rw [St.count_s]; exact q.count_le most hq)
    rwa [St.count_s] at this
theorem St.bool_s (q : St) : q.bool.1.s = q.s := by
  unfold St.bool; split
  · rfl
  · exact q.bytes_s 1
theorem St.bool_le (q : St) (hq : q.pos ≤ q.s.size) : q.bool.1.pos ≤ q.s.size := by
  unfold St.bool; split
  · exact hq
  · exact q.bytes_le 1 hq
theorem St.fin_fail (q : St) (h : 0 < (q.s.size : Int) - q.pos) : q.fin = q.fail 5 := by
  unfold St.fin St.fail
  by_cases he : q.err = 0
  · rw [if_pos ⟨he, by omega⟩, if_pos he]
  · rw [if_neg (fun x => he x.1), if_neg he]
theorem St.fin_end (q : St) (h : ¬ 0 < (q.s.size : Int) - q.pos) : q.fin = q := by
  unfold St.fin
  rw [if_neg (fun x => h (by omega))]
end Go.Wire
/- Files' digests by trees, of no program: where a list is cut, roots, ways up, shares. -/
namespace Go.Mk
/-- The digest of parts for a purpose. -/
def tag (p : UInt8) (xs : List ByteArray) : ByteArray := ⟨(Sha.sum (Sha.parts p (xs.map fun s => s.data.toList))).toArray⟩
theorem tag_size (p : UInt8) (xs : List ByteArray) : (tag p xs).size = 32 := by
  show (Sha.sum _).toArray.size = 32
  rw [List.size_toArray, Sha.sum_length]
/-- The greatest power of two below n. -/
def kc (n : Nat) : Nat := 2 ^ Nat.log2 (n - 1)
theorem kc_pos (n : Nat) : 1 ≤ kc n := Nat.one_le_two_pow
theorem kc_lt {n : Nat} (h : 2 ≤ n) : kc n < n := by
  have := Nat.log2_self_le (n := n - 1) (by omega)
  unfold kc; omega
theorem kc_half {n : Nat} (h : 2 ≤ n) : n ≤ 2 * kc n := by
  have := Nat.lt_log2_self (n := n - 1)
  unfold kc
  rw [Nat.pow_succ] at this; omega
theorem kc_is {n j : Nat} (h : 2 ≤ n) (h1 : 2 ^ j < n) (h2 : n ≤ 2 * 2 ^ j) : 2 ^ j = kc n := by
  unfold kc
  rw [(Nat.log2_eq_iff (n := n - 1) (k := j) (by omega)).2 ⟨by omega, by rw [Nat.pow_succ]; omega⟩]
/-- The root, reckoned in so many steps at most. -/
def rootF : Nat → List ByteArray → ByteArray
  | 0, _ => tag 69 []
  | f + 1, l => if 2 ≤ l.length then tag 74 [rootF f (l.take (kc l.length)), rootF f (l.drop (kc l.length))] else match l with
    | x :: _ => x
    | [] => tag 69 []
theorem rootF_same : ∀ (f g : Nat) (l : List ByteArray), l.length ≤ f → l.length ≤ g → rootF f l = rootF g l
  | 0, 0, _, _, _ => rfl
  | 0, _ + 1, l, h, _ => by
    obtain rfl : l = [] := List.length_eq_zero_iff.1 (by omega)
    rfl
  | _ + 1, 0, l, _, h => by
    obtain rfl : l = [] := List.length_eq_zero_iff.1 (by omega)
    rfl
  | f + 1, g + 1, l, h1, h2 => by
    unfold rootF
    by_cases h : 2 ≤ l.length
    · have k1 := kc_pos l.length
      have k2 := kc_lt h
      rw [if_pos h, if_pos h, rootF_same f g (l.take (kc l.length)) (by rw [List.length_take]; omega) (by rw [List.length_take]; omega), rootF_same f g (l.drop (kc l.length)) (by rw [List.length_drop]; omega) (by rw [List.length_drop]; omega)]
    · rw [if_neg h, if_neg h]
def root (l : List ByteArray) : ByteArray := rootF l.length l
theorem root_nil : root [] = tag 69 [] := rfl
theorem root_one (x : ByteArray) : root [x] = x := rfl
theorem root_more (l : List ByteArray) (h : 2 ≤ l.length) : root l = tag 74 [root (l.take (kc l.length)), root (l.drop (kc l.length))] := by
  have k1 := kc_pos l.length
  have k2 := kc_lt h
  obtain ⟨f, hf⟩ : ∃ f, l.length = f + 1 := ⟨l.length - 1, by omega⟩
  have e : root l = rootF (f + 1) l := rootF_same _ _ l (Nat.le_refl _) (by omega)
  rw [e]
  unfold rootF
  rw [if_pos h]
  unfold root
  rw [rootF_same f _ (l.take (kc l.length)) (by rw [List.length_take]; omega) (Nat.le_refl _), rootF_same f _ (l.drop (kc l.length)) (by rw [List.length_drop]; omega) (Nat.le_refl _)]
theorem root_size (l : List ByteArray) (h : ∀ x ∈ l, x.size = 32) : (root l).size = 32 := by
  by_cases h2 : 2 ≤ l.length
  · rw [root_more l h2]; exact tag_size _ _
  · match l, h with
    | [], _ => rw [root_nil]; exact tag_size _ _
    | [x], h => rw [root_one]; exact h x (by simp)
    | _ :: _ :: _, _ => exact absurd (by simp) h2
/-- The digests beside the way up from a place. -/
def pathF : Nat → List ByteArray → Nat → List ByteArray
  | 0, _, _ => []
  | f + 1, l, i =>
    if 2 ≤ l.length then
      if i < kc l.length then pathF f (l.take (kc l.length)) i ++ [root (l.drop (kc l.length))]
      else pathF f (l.drop (kc l.length)) (i - kc l.length) ++ [root (l.take (kc l.length))]
    else []
theorem pathF_same : ∀ (f g : Nat) (l : List ByteArray) (i : Nat), l.length ≤ f → l.length ≤ g → pathF f l i = pathF g l i
  | 0, 0, _, _, _, _ => rfl
  | 0, _ + 1, l, _, h, _ => by
    obtain rfl : l = [] := List.length_eq_zero_iff.1 (by omega)
    rfl
  | _ + 1, 0, l, _, _, h => by
    obtain rfl : l = [] := List.length_eq_zero_iff.1 (by omega)
    rfl
  | f + 1, g + 1, l, i, h1, h2 => by
    unfold pathF
    by_cases h : 2 ≤ l.length
    · have k1 := kc_pos l.length
      have k2 := kc_lt h
      rw [if_pos h, if_pos h, pathF_same f g (l.take (kc l.length)) i (by rw [List.length_take]; omega) (by rw [List.length_take]; omega), pathF_same f g (l.drop (kc l.length)) (i - kc l.length) (by rw [List.length_drop]; omega) (by rw [List.length_drop]; omega)]
    · rw [if_neg h, if_neg h]
def path (l : List ByteArray) (i : Nat) : List ByteArray := pathF l.length l i
theorem path_step (l : List ByteArray) (i : Nat) (h : 2 ≤ l.length) : path l i = if i < kc l.length then path (l.take (kc l.length)) i ++ [root (l.drop (kc l.length))] else path (l.drop (kc l.length)) (i - kc l.length) ++ [root (l.take (kc l.length))] := by
  have k1 := kc_pos l.length
  have k2 := kc_lt h
  obtain ⟨f, hf⟩ : ∃ f, l.length = f + 1 := ⟨l.length - 1, by omega⟩
  have e : path l i = pathF (f + 1) l i := pathF_same _ _ l i (Nat.le_refl _) (by omega)
  rw [e]
  unfold pathF
  rw [if_pos h]
  unfold path
  rw [pathF_same f _ (l.take (kc l.length)) i (by rw [List.length_take]; omega) (Nat.le_refl _), pathF_same f _ (l.drop (kc l.length)) (i - kc l.length) (by rw [List.length_drop]; omega) (Nat.le_refl _)]
theorem path_few (l : List ByteArray) (i : Nat) (h : l.length < 2) : path l i = [] := by
  match l, h with
  | [], _ => rfl
  | [_], _ => rfl
theorem path_left (l : List ByteArray) (i : Nat) (h : 2 ≤ l.length) (hi : i < kc l.length) : path l i = path (l.take (kc l.length)) i ++ [root (l.drop (kc l.length))] := by rw [path_step l i h, if_pos hi]
theorem path_right (l : List ByteArray) (i : Nat) (h : 2 ≤ l.length) (hi : ¬ i < kc l.length) : path l i = path (l.drop (kc l.length)) (i - kc l.length) ++ [root (l.take (kc l.length))] := by rw [path_step l i h, if_neg hi]
/-- How many steps it is up. -/
def wayF : Nat → Nat → Nat → Nat
  | 0, _, _ => 0
  | f + 1, i, n => if 2 ≤ n then (if i < kc n then 1 + wayF f i (kc n) else 1 + wayF f (i - kc n) (n - kc n)) else 0
theorem wayF_same : ∀ (f g i n : Nat), n ≤ f → n ≤ g → wayF f i n = wayF g i n
  | 0, 0, _, _, _, _ => rfl
  | 0, _ + 1, _, n, h, _ => by
    obtain rfl : n = 0 := by omega
    rfl
  | _ + 1, 0, _, n, _, h => by
    obtain rfl : n = 0 := by omega
    rfl
  | f + 1, g + 1, i, n, h1, h2 => by
    unfold wayF
    by_cases h : 2 ≤ n
    · have k1 := kc_pos n
      have k2 := kc_lt h
      rw [if_pos h, if_pos h, wayF_same f g i (kc n) (by omega) (by omega), wayF_same f g (i - kc n) (n - kc n) (by omega) (by omega)]
    · rw [if_neg h, if_neg h]
def way (i n : Nat) : Nat := wayF n i n
theorem way_step (i n : Nat) (h : 2 ≤ n) : way i n = if i < kc n then 1 + way i (kc n) else 1 + way (i - kc n) (n - kc n) := by
  have k1 := kc_pos n
  have k2 := kc_lt h
  obtain ⟨f, rfl⟩ : ∃ f, n = f + 1 := ⟨n - 1, by omega⟩
  show wayF (f + 1) i (f + 1) = _
  unfold wayF
  rw [if_pos h]
  unfold way
  rw [wayF_same f _ i (kc (f + 1)) (by omega) (Nat.le_refl _), wayF_same f _ (i - kc (f + 1)) (f + 1 - kc (f + 1)) (by omega) (Nat.le_refl _)]
theorem way_one (i n : Nat) (h : n < 2) : way i n = 0 := by
  match n, h with
  | 0, _ => rfl
  | 1, _ => rfl
theorem way_left (i n : Nat) (h : 2 ≤ n) (hi : i < kc n) : way i n = 1 + way i (kc n) := by rw [way_step i n h, if_pos hi]
theorem way_right (i n : Nat) (h : 2 ≤ n) (hi : ¬ i < kc n) : way i n = 1 + way (i - kc n) (n - kc n) := by rw [way_step i n h, if_neg hi]
theorem way_lt (i n : Nat) (h : 1 ≤ n) : way i n < n := by
  induction n using Nat.strongRecOn generalizing i with
  | _ n ih =>
    by_cases h2 : 2 ≤ n
    · have k1 := kc_pos n
      have k2 := kc_lt h2
      by_cases hi : i < kc n
      · have := ih (kc n) k2 i k1; rw [way_left i n h2 hi]; omega
      · have := ih (n - kc n) (by omega) (i - kc n) (by omega); rw [way_right i n h2 hi]; omega
    · rw [way_one i n (by omega)]; omega
theorem way_log (n : Nat) : ∀ j i, n ≤ 2 ^ j → 1 ≤ n → way i n ≤ j := by
  induction n using Nat.strongRecOn with
  | _ n ih =>
    intro j i hj hn
    by_cases h2 : 2 ≤ n
    · have k1 := kc_pos n
      have k2 := kc_lt h2
      have k3 := kc_half h2
      match j with
      | 0 => simp at hj; omega
      | j + 1 =>
        have hk : kc n ≤ 2 ^ j := by
          unfold kc
          refine Nat.pow_le_pow_right (by omega) ?_
          have : 2 ^ Nat.log2 (n - 1) < 2 ^ (j + 1) := Nat.lt_of_le_of_lt (Nat.log2_self_le (by omega)) (by omega)
          have := (Nat.pow_lt_pow_iff_right (a := 2) (by omega)).1 this
          omega
        by_cases hi : i < kc n
        · have := ih (kc n) k2 j i hk k1; rw [way_left i n h2 hi]; omega
        · have := ih (n - kc n) (by omega) j (i - kc n) (by omega) (by omega); rw [way_right i n h2 hi]; omega
    · rw [way_one i n (by omega)]; omega
theorem way_eight (i n : Nat) (h : 1 ≤ n) (h2 : n ≤ 256) : way i n ≤ 8 := way_log n 8 i (by simpa using h2) h
theorem path_length (l : List ByteArray) (i : Nat) : (path l i).length = way i l.length := by
  generalize hn : l.length = n
  induction n using Nat.strongRecOn generalizing l i with
  | _ n ih =>
    subst hn
    by_cases h2 : 2 ≤ l.length
    · have k1 := kc_pos l.length
      have k2 := kc_lt h2
      by_cases hi : i < kc l.length
      · rw [path_left l i h2 hi, way_left i _ h2 hi, List.length_append, ih (kc l.length) k2 (l.take (kc l.length)) i (by rw [List.length_take]; omega)]
        simp; omega
      · rw [path_right l i h2 hi, way_right i _ h2 hi, List.length_append, ih (l.length - kc l.length) (by omega) (l.drop (kc l.length)) (i - kc l.length) (by rw [List.length_drop])]
        simp; omega
    · rw [path_few l i (by omega), way_one i _ (by omega)]; rfl
theorem path_sizes (l : List ByteArray) (i : Nat) (h : ∀ x ∈ l, x.size = 32) : ∀ x ∈ path l i, x.size = 32 := by
  generalize hn : l.length = n
  induction n using Nat.strongRecOn generalizing l i with
  | _ n ih =>
    subst hn
    have ht : ∀ k, ∀ x ∈ l.take k, x.size = 32 := fun k x hx => h x (List.mem_of_mem_take hx)
    have hd : ∀ k, ∀ x ∈ l.drop k, x.size = 32 := fun k x hx => h x (List.mem_of_mem_drop hx)
    by_cases h2 : 2 ≤ l.length
    · have k1 := kc_pos l.length
      have k2 := kc_lt h2
      by_cases hi : i < kc l.length
      · rw [path_left l i h2 hi]
        intro x hx
        rcases List.mem_append.1 hx with hx | hx
        · exact ih (kc l.length) k2 (l.take (kc l.length)) i (ht _) (by rw [List.length_take]; omega) x hx
        · simp at hx; subst hx; exact root_size _ (hd _)
      · rw [path_right l i h2 hi]
        intro x hx
        rcases List.mem_append.1 hx with hx | hx
        · exact ih (l.length - kc l.length) (by omega) (l.drop (kc l.length)) (i - kc l.length) (hd _) (by rw [List.length_drop]) x hx
        · simp at hx; subst hx; exact root_size _ (ht _)
    · rw [path_few l i (by omega)]; intro x hx; cases hx
/-- The root, by one digest at a place and those beside its way up. -/
def climbF : Nat → ByteArray → Nat → Nat → List ByteArray → ByteArray
  | 0, h, _, _, _ => h
  | f + 1, h, i, n, p =>
    if 2 ≤ n then
      if i < kc n then tag 74 [climbF f h i (kc n) p.dropLast, p.getLast?.getD ⟨#[]⟩]
      else tag 74 [p.getLast?.getD ⟨#[]⟩, climbF f h (i - kc n) (n - kc n) p.dropLast]
    else h
theorem climbF_same : ∀ (f g : Nat) (h : ByteArray) (i n : Nat) (p : List ByteArray), n ≤ f → n ≤ g → climbF f h i n p = climbF g h i n p
  | 0, 0, _, _, _, _, _, _ => rfl
  | 0, _ + 1, _, _, n, _, h, _ => by
    obtain rfl : n = 0 := by omega
    rfl
  | _ + 1, 0, _, _, n, _, _, h => by
    obtain rfl : n = 0 := by omega
    rfl
  | f + 1, g + 1, h, i, n, p, h1, h2 => by
    unfold climbF
    by_cases hn : 2 ≤ n
    · have k1 := kc_pos n
      have k2 := kc_lt hn
      rw [if_pos hn, if_pos hn, climbF_same f g h i (kc n) p.dropLast (by omega) (by omega), climbF_same f g h (i - kc n) (n - kc n) p.dropLast (by omega) (by omega)]
    · rw [if_neg hn, if_neg hn]
def climb (h : ByteArray) (i n : Nat) (p : List ByteArray) : ByteArray := climbF n h i n p
theorem climb_step (h : ByteArray) (i n : Nat) (p : List ByteArray) (hn : 2 ≤ n) : climb h i n p = if i < kc n then tag 74 [climb h i (kc n) p.dropLast, p.getLast?.getD ⟨#[]⟩] else tag 74 [p.getLast?.getD ⟨#[]⟩, climb h (i - kc n) (n - kc n) p.dropLast] := by
  have k1 := kc_pos n
  have k2 := kc_lt hn
  obtain ⟨f, rfl⟩ : ∃ f, n = f + 1 := ⟨n - 1, by omega⟩
  show climbF (f + 1) h i (f + 1) p = _
  unfold climbF
  rw [if_pos hn]
  unfold climb
  rw [climbF_same f _ h i (kc (f + 1)) p.dropLast (by omega) (Nat.le_refl _), climbF_same f _ h (i - kc (f + 1)) (f + 1 - kc (f + 1)) p.dropLast (by omega) (Nat.le_refl _)]
theorem climb_one (h : ByteArray) (i n : Nat) (p : List ByteArray) (hn : n < 2) : climb h i n p = h := by
  match n, hn with
  | 0, _ => rfl
  | 1, _ => rfl
theorem climb_left (h : ByteArray) (i n : Nat) (p : List ByteArray) (hn : 2 ≤ n) (hi : i < kc n) : climb h i n p = tag 74 [climb h i (kc n) p.dropLast, p.getLast?.getD ⟨#[]⟩] := by rw [climb_step h i n p hn, if_pos hi]
theorem climb_right (h : ByteArray) (i n : Nat) (p : List ByteArray) (hn : 2 ≤ n) (hi : ¬ i < kc n) : climb h i n p = tag 74 [p.getLast?.getD ⟨#[]⟩, climb h (i - kc n) (n - kc n) p.dropLast] := by rw [climb_step h i n p hn, if_neg hi]
theorem climb_size (h : ByteArray) (i n : Nat) (p : List ByteArray) (hh : h.size = 32) : (climb h i n p).size = 32 := by
  by_cases hn : 2 ≤ n
  · by_cases hi : i < kc n
    · rw [climb_left h i n p hn hi]; exact tag_size _ _
    · rw [climb_right h i n p hn hi]; exact tag_size _ _
  · rw [climb_one h i n p (by omega)]; exact hh
/-- What is shown comes to the root. -/
theorem climb_path (l : List ByteArray) (i : Nat) (x : ByteArray) (hx : l[i]? = some x) : climb x i l.length (path l i) = root l := by
  generalize hn : l.length = n
  induction n using Nat.strongRecOn generalizing l i with
  | _ n ih =>
    subst hn
    have hil : i < l.length := (List.getElem?_eq_some_iff.1 hx).1
    by_cases h2 : 2 ≤ l.length
    · have k1 := kc_pos l.length
      have k2 := kc_lt h2
      rw [root_more l h2]
      by_cases hi : i < kc l.length
      · rw [climb_left _ _ _ _ h2 hi, path_left l i h2 hi, List.dropLast_concat, List.getLast?_concat]
        have e : (l.take (kc l.length)).length = kc l.length := by rw [List.length_take]; omega
        have := ih (kc l.length) k2 (l.take (kc l.length)) i (by rw [List.getElem?_take_of_lt hi]; exact hx) e
        rw [this]; rfl
      · rw [climb_right _ _ _ _ h2 hi, path_right l i h2 hi, List.dropLast_concat, List.getLast?_concat]
        have e : (l.drop (kc l.length)).length = l.length - kc l.length := by rw [List.length_drop]
        have := ih (l.length - kc l.length) (by omega) (l.drop (kc l.length)) (i - kc l.length) (by rw [List.getElem?_drop, show kc l.length + (i - kc l.length) = i by omega]; exact hx) e
        rw [this]; rfl
    · obtain ⟨y, rfl⟩ : ∃ y, l = [y] := by
        match l, hil with
        | [y], _ => exact ⟨y, rfl⟩
        | _ :: _ :: _, _ => exact absurd (by simp) h2
      have : i = 0 := by simp at hil; omega
      subst this
      simp at hx; subst hx
      rw [climb_one _ _ _ _ (by simp), root_one]
/-- A file's digest, of its root. -/
def named (size many : Nat) (r : ByteArray) : ByteArray := tag 70 [Wire.numB 8 size, Wire.numB 8 many, r]
/-- May a file of so many bytes have so many chunks? -/
abbrev Sized (size many : Int) : Prop := many ≤ 256 ∧ size ≤ 8192 ∧ many ≤ size ∧ size ≤ 512 * many
def digest (s : ByteArray) : ByteArray := tag 75 [s]
theorem digest_size (s : ByteArray) : (digest s).size = 32 := tag_size _ _
/-- A share. -/
structure Sh where
  dg : ByteArray
  sz : Int
  mn : Int
  at_ : Int
  ck : ByteArray
  pa : List ByteArray
/-- What a share says may be. -/
abbrev Sh.Claims (x : Sh) : Prop := 1 ≤ x.mn ∧ x.mn ≤ 256 ∧ 0 ≤ x.at_ ∧ x.at_ < x.mn ∧ Sized x.sz x.mn ∧ 1 ≤ x.ck.size ∧ x.ck.size ≤ 512
/-- Its digests come to the file's. -/
abbrev Sh.Proves (x : Sh) : Prop := x.pa.length = way x.at_.toNat x.mn.toNat ∧ (∀ h ∈ x.pa, h.size = 32) ∧ named x.sz.toNat x.mn.toNat (climb (digest x.ck) x.at_.toNat x.mn.toNat x.pa) = x.dg
/-- Zero, or why not. -/
def Sh.verdict (x : Sh) : Int := if x.Claims then (if x.Proves then 0 else 90) else 1
end Go.Mk
