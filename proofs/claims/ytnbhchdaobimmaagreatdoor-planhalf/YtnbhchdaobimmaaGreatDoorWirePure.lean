/- Several texts in one: WireMath, WireAt, WireTook, StampMath, StampAt, OpMath. -/
import Derived.Laws.Entries
import Derived.Laws.Bits64
import Derived.Laws.StructEq
/- Plain functions for numbers, texts, digests and frames in bytes, and for a reader that goes through bytes; no program text is named here. -/
namespace Go.Wire
/-! ### The check -/
def step (h : Nat) (c : UInt8) : Nat := (h ^^^ c.toNat) * 16777619 % 4294967296
def fnv (l : List UInt8) : Nat := l.foldl step 2166136261
theorem wrap_u64 (n : Int) : IntKind.u64.wrap n = n % 18446744073709551616 := by simp [IntKind.wrap, IntKind.bits, IntKind.signed]
/-! ### Digits -/
def hexd (d : Nat) : UInt8 := if d < 10 then UInt8.ofNat (48 + d) else UInt8.ofNat (87 + d)
/-- The lowest k digits of n, the highest first. -/
def num : Nat → Nat → List UInt8
 | 0, _ => []
 | k + 1, n => num k (n / 16) ++ [hexd (n % 16)]
def numB (k n : Nat) : ByteArray := ⟨(num k n).toArray⟩
/-- The value of a digit. -/
def dig (c : UInt8) : Option Nat := if 48 ≤ c.toNat ∧ c.toNat ≤ 57 then some (c.toNat - 48) else if 97 ≤ c.toNat ∧ c.toNat ≤ 102 then some (c.toNat - 87) else none
def vstep (o : Option Nat) (c : UInt8) : Option Nat := o.bind fun n => (dig c).map fun d => n * 16 + d
/-- The number that digits are. -/
def val (l : List UInt8) : Option Nat := l.foldl vstep (some 0)
/-! ### A reader: bytes, how many were taken, the error -/
structure St where
 s : ByteArray
 pos : Nat
 err : Int
def St.fail (q : St) (e : Int) : St := if q.err = 0 then ⟨q.s, q.pos, e⟩ else q
def St.back (q : St) (p : Nat) (e : Int) : St := if q.err = 0 then ⟨q.s, p, e⟩ else q
def St.bytes (q : St) (n : Int) : St × ByteArray :=
 if q.err ≠ 0 then (q, ⟨#[]⟩) else if n < 0 then (⟨q.s, q.pos, 1⟩, ⟨#[]⟩) else if (q.s.size : Int) - q.pos < n then (⟨q.s, q.pos, 4⟩, ⟨#[]⟩)
 else (⟨q.s, q.pos + n.toNat, 0⟩, q.s.extract q.pos (q.pos + n.toNat))
def St.number (q : St) (k : Int) : St × Nat :=
 if q.err = 0 ∧ (k < 0 ∨ 8 < k) then (⟨q.s, q.pos, 1⟩, 0)
 else match val (q.bytes (2 * k)).2.data.toList with
  | none => (⟨q.s, q.pos, 6⟩, 0)
  | some n => ((q.bytes (2 * k)).1, n)
def St.count (q : St) (most : Int) : St × Nat :=
 if (q.number 4).1.err = 0 ∧ (most < 0 ∨ most < (q.number 4).2) then (⟨q.s, q.pos, 3⟩, 0) else q.number 4
def St.text (q : St) (most : Int) : St × ByteArray :=
 if ((q.count most).1.bytes (q.count most).2).1.err ≠ 0 ∧ q.err = 0 then (⟨q.s, q.pos, ((q.count most).1.bytes (q.count most).2).1.err⟩, ⟨#[]⟩)
 else (q.count most).1.bytes (q.count most).2
def St.bool (q : St) : St × Bool :=
 if (q.bytes 1).1.err = 0 ∧ (q.bytes 1).2 ≠ ⟨#[121]⟩ ∧ (q.bytes 1).2 ≠ ⟨#[110]⟩ then (⟨q.s, q.pos, 6⟩, false)
 else ((q.bytes 1).1, decide ((q.bytes 1).2 = ⟨#[121]⟩))
def St.fin (q : St) : St := if q.err = 0 ∧ q.pos < q.s.size then ⟨q.s, q.pos, 5⟩ else q
end Go.Wire
/- What was put is taken again: a reader at bytes and numbers that stand there; no program text is named here. -/
namespace Go.Wire
theorem ext_list {a b : ByteArray} (h : a.data.toList = b.data.toList) : a = b := ByteArray.ext (Array.toList_inj.1 h)
theorem size_list (s : ByteArray) : s.size = s.data.toList.length := by simp
end Go.Wire
/- Digits have one form; what a reader took; a reader ahead of bytes that are known; no program text is named here. -/
namespace Go.Wire
/-! ### Digits have one form -/
/-! ### What was taken without an error -/
/-- Between q and r the bytes l were taken. -/
structure Took (q : St) (l : List UInt8) (r : St) : Prop where
 s : r.s = q.s
 e0 : q.err = 0
 e1 : r.err = 0
 pos : r.pos = q.pos + l.length
 le : r.pos ≤ q.s.size
 l : (q.s.data.toList.drop q.pos).take l.length = l
def letter (b : Bool) : UInt8 := if b then 121 else 110
/-! ### A reader ahead of bytes that are known -/
/-- Behind A and ahead of C. -/
structure At (q : St) (A C : List UInt8) : Prop where
 s : q.s.data.toList = A ++ C
 pos : q.pos = A.length
 err : q.err = 0
def St.on (q : St) (n : Nat) : St := ⟨q.s, q.pos + n, 0⟩
end Go.Wire
/- Times as plain numbers: a count and who it was; no program text is named here. -/
namespace Go.Stamp
/-- A time: its count and who it was. -/
structure Tm where
 c : Int
 k : Int
/-- What a time's numbers may be by their types. -/
structure Tm.Fits (t : Tm) : Prop where
 c0 : 0 ≤ t.c
 c1 : t.c ≤ 18446744073709551615
 k0 : -9223372036854775808 ≤ t.k
 k1 : t.k ≤ 9223372036854775807
def Tm.v (t : Tm) : Value := .agg #[.int .u64 t.c, .int .i64 t.k]
/-- May it be? -/
abbrev Tm.Ok (t : Tm) : Prop := 1 ≤ t.c ∧ t.c ≤ 281474976710655 ∧ 0 ≤ t.k ∧ t.k < 16
def Tm.chk (t : Tm) : Int := if t.Ok then 0 else 40
theorem Tm.chk_ok {t : Tm} (h : t.Ok) : t.chk = 0 := if_pos h
theorem Tm.chk_no {t : Tm} (h : ¬ t.Ok) : t.chk = 40 := if_neg h
def Tm.thing (t : Tm) : Int := if t.Ok then t.c * 16 + t.k else 0
theorem Tm.thing_ok {t : Tm} (h : t.Ok) : t.thing = t.c * 16 + t.k := if_pos h
theorem Tm.thing_no {t : Tm} (h : ¬ t.Ok) : t.thing = 0 := if_neg h
def Tm.cmp (a b : Tm) : Int := if a.c < b.c then -1 else if b.c < a.c then 1 else if a.k < b.k then -1 else if b.k < a.k then 1 else 0
abbrev Tm.before (a b : Tm) : Prop := a.c < b.c ∨ (a.c = b.c ∧ a.k < b.k)
/-- What a clock has seen behind a time. -/
def Tm.sees (t : Tm) (n : Int) : Int := if t.Ok then (if n < t.c then t.c else n) else n
def Tm.zero : Tm := ⟨0, 0⟩
end Go.Stamp
/- A time off a reader, as plain functions; no program text is named here. -/
namespace Go.Wire
open Go.Stamp
/-- A time off a reader. -/
def St.read (q : St) : Tm := ⟨((q.number 8).2 : Nat), (((q.number 8).1.number 1).2 : Nat)⟩
def St.stamp (q : St) : St × Tm :=
 let r := if q.read.Ok then ((q.number 8).1.number 1).1 else ((q.number 8).1.number 1).1.fail 40
 (r, if r.err = 0 then q.read else ⟨0, 0⟩)
end Go.Wire
/- Operations as plain data, their bytes, and one off a reader; no program text is named here. -/
namespace Go.Wire
end Go.Wire
namespace Go.Opn
open Go.Wire Go.Stamp
/-- An operation. -/
structure Ob where
 kind : Int
 tm : Tm
 thing : Int
 par : Int
 name : ByteArray
 dir : Bool
 dg : ByteArray
 size : Int
def Ob.v (o : Ob) : Value := .agg #[.int .i64 o.kind, .int .u64 o.tm.c, .int .i64 o.tm.k, .int .u64 o.thing, .int .u64 o.par, .string o.name, .bool o.dir, .string o.dg, .int .i64 o.size]
def Ob.zero : Ob := ⟨0, ⟨0, 0⟩, 0, 0, ⟨#[]⟩, false, ⟨#[]⟩, 0⟩
/-- What an operation's numbers may be by their types. -/
structure Ob.Fits (o : Ob) : Prop where
 kind : -9223372036854775808 ≤ o.kind ∧ o.kind ≤ 9223372036854775807
 tm : o.tm.Fits
 thing : 0 ≤ o.thing ∧ o.thing ≤ 18446744073709551615
 par : 0 ≤ o.par ∧ o.par ≤ 18446744073709551615
 name : o.name.size ≤ 9223372036854775807
 dg : o.dg.size ≤ 9223372036854775807
 size : -9223372036854775808 ≤ o.size ∧ o.size ≤ 9223372036854775807
def made (n : Int) : Bool := decide (16 ≤ n) && decide (n ≤ 4503599627370495)
def Ob.place (o : Ob) : Bool := (o.par == 0 || made o.par) && !(o.par == o.thing) && decide (1 ≤ o.name.size) && decide (o.name.size ≤ 32)
def Ob.fill (o : Ob) : Bool := o.dg.size == 32 && decide (0 ≤ o.size) && decide (o.size ≤ 8192)
def Ob.fits (o : Ob) : Bool :=
 if o.kind = 1 then o.thing == o.tm.thing && o.place else if o.kind = 2 then o.place else if o.kind = 3 then true else if o.kind = 4 then o.fill else false
def Ob.own (o : Ob) : Ob :=
 if o.kind = 1 then ⟨o.kind, o.tm, o.thing, o.par, o.name, o.dir, ⟨#[]⟩, 0⟩ else if o.kind = 2 then ⟨o.kind, o.tm, o.thing, o.par, o.name, false, ⟨#[]⟩, 0⟩
 else if o.kind = 4 then ⟨o.kind, o.tm, o.thing, 0, ⟨#[]⟩, false, o.dg, o.size⟩ else ⟨o.kind, o.tm, o.thing, 0, ⟨#[]⟩, false, ⟨#[]⟩, 0⟩
def Ob.eqb (a b : Ob) : Bool := a.kind == b.kind && ((a.tm.c == b.tm.c && (a.tm.k == b.tm.k && true)) && (a.thing == b.thing && (a.par == b.par && (a.name.toList == b.name.toList && (a.dir == b.dir && (a.dg.toList == b.dg.toList && (a.size == b.size && true)))))))
theorem toList_iff (x y : ByteArray) : x.toList = y.toList ↔ x = y := by
 rw [ByteArray.toList_eq, ByteArray.toList_eq]
 exact ⟨fun h => ext_list h, fun h => by rw [h]⟩
theorem Ob.eqb_iff (a b : Ob) : a.eqb b = true ↔ a = b := by
 obtain ⟨k, ⟨c, w⟩, t, p, n, d, g, z⟩ := a
 obtain ⟨k', ⟨c', w'⟩, t', p', n', d', g', z'⟩ := b
 simp only [Ob.eqb, Bool.and_eq_true, beq_iff_eq, Ob.mk.injEq, Tm.mk.injEq, toList_iff, and_true]
/-- May it be, its time apart? -/
def Ob.good (o : Ob) : Bool := made o.thing && o.fits && o.eqb o.own
abbrev Ob.Good (o : Ob) : Prop := o.good = true
def Ob.chk (o : Ob) : Int := if o.tm.Ok then (if o.Good then 0 else 50) else 40
theorem Ob.chk_bad {o : Ob} (h : o.tm.Ok) (g : ¬ o.Good) : o.chk = 50 := by unfold Ob.chk; rw [if_pos h, if_neg g]
theorem Ob.chk_no {o : Ob} (h : ¬ o.tm.Ok) : o.chk = 40 := by unfold Ob.chk; rw [if_neg h]
theorem Ob.chk_zero {o : Ob} (h : o.chk = 0) : o.tm.Ok ∧ o.Good := by
 by_cases a : o.tm.Ok
 ·by_cases b : o.Good
  ·exact ⟨a, b⟩
  ·rw [Ob.chk_bad a b] at h; exact absurd h (by decide)
 ·rw [Ob.chk_no a] at h; exact absurd h (by decide)
/-! ### Bytes -/
def Ob.head (o : Ob) : List UInt8 := num 2 o.kind.toNat ++ (num 16 o.tm.c.toNat ++ num 2 o.tm.k.toNat) ++ num 16 o.thing.toNat
def Ob.spot (o : Ob) : List UInt8 := num 16 o.par.toNat ++ (num 8 o.name.size ++ o.name.data.toList)
def Ob.bytes (o : Ob) : List UInt8 :=
 if o.kind = 1 then o.head ++ [letter o.dir] ++ o.spot else if o.kind = 2 then o.head ++ o.spot else if o.kind = 4 then o.head ++ o.dg.data.toList ++ num 8 o.size.toNat else o.head
def Ob.bytesB (o : Ob) : ByteArray := ⟨o.bytes.toArray⟩
/-! ### An operation off a reader -/
end Go.Opn
namespace Go.Wire
open Go.Stamp Go.Opn
def St.r1 (q : St) : St × Nat := q.number 1
def St.r2 (q : St) : St × Tm := q.r1.1.stamp
def St.r3 (q : St) : St × Nat := q.r2.1.number 8
def St.b0 (q : St) : Ob := ⟨q.r1.2, q.r2.2, q.r3.2, 0, ⟨#[]⟩, false, ⟨#[]⟩, 0⟩
def St.raw (q : St) : St × Ob :=
 if q.r1.2 = 1 then (((q.r3.1.bool.1.number 8).1.text 32).1, ⟨q.r1.2, q.r2.2, q.r3.2, (q.r3.1.bool.1.number 8).2, ((q.r3.1.bool.1.number 8).1.text 32).2, q.r3.1.bool.2, ⟨#[]⟩, 0⟩)
 else if q.r1.2 = 2 then (((q.r3.1.number 8).1.text 32).1, ⟨q.r1.2, q.r2.2, q.r3.2, (q.r3.1.number 8).2, ((q.r3.1.number 8).1.text 32).2, false, ⟨#[]⟩, 0⟩)
 else if q.r1.2 = 4 then (((q.r3.1.bytes 32).1.count 8192).1, ⟨q.r1.2, q.r2.2, q.r3.2, 0, ⟨#[]⟩, false, (q.r3.1.bytes 32).2, ((q.r3.1.bytes 32).1.count 8192).2⟩)
 else (q.r3.1, q.b0)
def St.op (q : St) : St × Ob := (q.raw.1.fail q.raw.2.chk, if (q.raw.1.fail q.raw.2.chk).err = 0 then q.raw.2 else Ob.zero)
end Go.Wire
namespace Go.Opn
open Go.Wire Go.Stamp
/-! ### What an operation that may be is -/
structure Ob.Is (o : Ob) : Prop where
 thing : 16 ≤ o.thing ∧ o.thing ≤ 4503599627370495
 par : 0 ≤ o.par ∧ o.par ≤ 4503599627370495
 name : o.name.size ≤ 32
 size : 0 ≤ o.size ∧ o.size ≤ 8192
 dg : o.dg.size ≤ 32
 kind : (o.kind = 1 ∧ o.dg = ⟨#[]⟩ ∧ o.size = 0) ∨ (o.kind = 2 ∧ o.dg = ⟨#[]⟩ ∧ o.size = 0 ∧ o.dir = false) ∨ (o.kind = 3 ∧ o.par = 0 ∧ o.name = ⟨#[]⟩ ∧ o.dg = ⟨#[]⟩ ∧ o.size = 0 ∧ o.dir = false) ∨ (o.kind = 4 ∧ o.par = 0 ∧ o.name = ⟨#[]⟩ ∧ o.dir = false ∧ o.dg.size = 32)
end Go.Opn
