/- Times as plain numbers: a count and who it was; no program text is named here. -/
import Derived.Test.YtglacfbhfhlbcaaWireMath
namespace Go.Stamp
/-- A time: its count and who it was. -/
structure Tm where
  c : Int
  k : Int
/-- What a time's numbers may be by their types. -/
structure Tm.Fits (t : Tm) : Prop where
  c0 : 0 ≤ t.c
  c1 : t.c ≤ 18446744073709551615
  k0 : -9223372036854775808 ≤ t.k
  k1 : t.k ≤ 9223372036854775807
def Tm.v (t : Tm) : Value := .agg #[.int .u64 t.c, .int .i64 t.k]
/-- May it be? -/
def Tm.Ok (t : Tm) : Prop := 1 ≤ t.c ∧ t.c ≤ 281474976710655 ∧ 0 ≤ t.k ∧ t.k < 16
instance (t : Tm) : Decidable t.Ok := by unfold Tm.Ok; exact inferInstance
def Tm.chk (t : Tm) : Int := if t.Ok then 0 else 40
theorem Tm.chk_ok {t : Tm} (h : t.Ok) : t.chk = 0 := if_pos h
theorem Tm.chk_no {t : Tm} (h : ¬ t.Ok) : t.chk = 40 := if_neg h
def Tm.thing (t : Tm) : Int := if t.Ok then t.c * 16 + t.k else 0
theorem Tm.thing_ok {t : Tm} (h : t.Ok) : t.thing = t.c * 16 + t.k := if_pos h
theorem Tm.thing_no {t : Tm} (h : ¬ t.Ok) : t.thing = 0 := if_neg h
def Tm.cmp (a b : Tm) : Int := if a.c < b.c then -1 else if b.c < a.c then 1 else if a.k < b.k then -1 else if b.k < a.k then 1 else 0
def Tm.before (a b : Tm) : Prop := a.c < b.c ∨ (a.c = b.c ∧ a.k < b.k)
instance (a b : Tm) : Decidable (a.before b) := by unfold Tm.before; exact inferInstance
def Tm.zero : Tm := ⟨0, 0⟩
end Go.Stamp
