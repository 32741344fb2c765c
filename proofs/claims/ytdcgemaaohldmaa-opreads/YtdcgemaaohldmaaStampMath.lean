/- Times as plain numbers: a count and who it was; no program text is named here. -/
import Derived.Test.YtdcgemaaohldmaaWireMath
namespace Go.Stamp
/-- A time: its count and who it was. -/
structure Tm where
  c : Int
  k : Int
/-- What a time's numbers may be by their types. -/
structure Tm.Fits (t : Tm) : Prop where
  c0 : 0 ≤ t.c
  c1 : t.c ≤ 18446744073709551615
  k0 : -9223372036854775808 ≤ t.k
  k1 : t.k ≤ 9223372036854775807
def Tm.v (t : Tm) : Value := .agg #[.int .u64 t.c, .int .i64 t.k]
/-- May it be? -/
abbrev Tm.Ok (t : Tm) : Prop := 1 ≤ t.c ∧ t.c ≤ 281474976710655 ∧ 0 ≤ t.k ∧ t.k < 16
def Tm.chk (t : Tm) : Int := if t.Ok then 0 else 40
theorem Tm.chk_ok {t : Tm} (h : t.Ok) : t.chk = 0 := if_pos h
theorem Tm.chk_no {t : Tm} (h : ¬ t.Ok) : t.chk = 40 := if_neg h
def Tm.thing (t : Tm) : Int := if t.Ok then t.c * 16 + t.k else 0
theorem Tm.thing_ok {t : Tm} (h : t.Ok) : t.thing = t.c * 16 + t.k := if_pos h
theorem Tm.thing_no {t : Tm} (h : ¬ t.Ok) : t.thing = 0 := if_neg h
def Tm.cmp (a b : Tm) : Int := if a.c < b.c then -1 else if b.c < a.c then 1 else if a.k < b.k then -1 else if b.k < a.k then 1 else 0
abbrev Tm.before (a b : Tm) : Prop := a.c < b.c ∨ (a.c = b.c ∧ a.k < b.k)
/-- What a clock has seen behind a time. -/
def Tm.sees (t : Tm) (n : Int) : Int := if t.Ok then (if n < t.c then t.c else n) else n
theorem Tm.sees_le (t : Tm) (n : Int) (h : n ≤ 281474976710655) : n ≤ t.sees n ∧ t.sees n ≤ 281474976710655 := by
  unfold Tm.sees
  split
  · rename_i k
    unfold Tm.Ok at k
    split <;> omega
  · omega
theorem Tm.sees_ok (t : Tm) (n : Int) (h : t.Ok) : t.c ≤ t.sees n := by
  unfold Tm.sees
  rw [if_pos h]
  split <;> omega
theorem Tm.cmp_lt {a b : Tm} (h : a.c < b.c) : a.cmp b = -1 := if_pos h
def Tm.zero : Tm := ⟨0, 0⟩
end Go.Stamp
