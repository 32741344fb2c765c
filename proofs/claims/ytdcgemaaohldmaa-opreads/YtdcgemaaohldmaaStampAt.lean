/- A time off a reader, as plain functions; no program text is named here. -/
import Derived.Test.YtdcgemaaohldmaaStampMath
import Derived.Test.YtdcgemaaohldmaaWireAt
namespace Go.Wire
open Go.Stamp
/-- A time off a reader. -/
def St.read (q : St) : Tm := ⟨((q.number 8).2 : Nat), (((q.number 8).1.number 1).2 : Nat)⟩
def St.stamp (q : St) : St × Tm :=
  let r := if q.read.Ok then ((q.number 8).1.number 1).1 else ((q.number 8).1.number 1).1.fail 40
  (r, if r.err = 0 then q.read else ⟨0, 0⟩)
theorem St.stamp_s (q : St) : q.stamp.1.s = q.s := by
  have h : ((q.number 8).1.number 1).1.s = q.s := by rw [St.number_s, St.number_s]
  unfold St.stamp
  dsimp only
  split
  · exact h
  · rw [St.fail_s, h]
theorem St.stamp_le (q : St) (hq : q.pos ≤ q.s.size) : q.stamp.1.pos ≤ q.s.size := by
  have h8 := q.number_le 8 hq
  have h : ((q.number 8).1.number 1).1.pos ≤ q.s.size := by
    have := (q.number 8).1.number_le 1 (by rw [St.number_s]; exact h8)
    rwa [St.number_s] at this
  unfold St.stamp
  dsimp only
  split
  · exact h
  · rw [St.fail_pos]; exact h
theorem St.read_fits (q : St) : q.read.c ≤ 18446744073709551615 ∧ 0 ≤ q.read.k ∧ q.read.k ≤ 255 ∧ 0 ≤ q.read.c := by
  have h1 := q.number_lt 8 (by decide)
  have h2 := (q.number 8).1.number_lt 1 (by decide)
  have e1 : (16 : Nat) ^ (2 * (8 : Int)).toNat = 18446744073709551616 := by decide
  have e2 : (16 : Nat) ^ (2 * (1 : Int)).toNat = 256 := by decide
  rw [e1] at h1
  rw [e2] at h2
  unfold St.read
  dsimp only
  omega
theorem nil_app (x : ByteArray) : (⟨#[]⟩ : ByteArray) ++ x = x := by apply ext_list; simp
theorem app_nil (x : ByteArray) : x ++ (⟨#[]⟩ : ByteArray) = x := by apply ext_list; simp
/-- A time that stands at a reader's place is taken. -/
theorem stamp_at {q : St} {A C : ByteArray} (c k : Nat) (hok : (Tm.mk c k).Ok) (hs : q.s = A ++ (numB 16 c ++ numB 2 k) ++ C) (hp : q.pos = A.size) (he : q.err = 0) : q.stamp = (⟨q.s, A.size + 18, 0⟩, ⟨c, k⟩) := by
  have h' := hok
  unfold Tm.Ok at h'
  dsimp only at h'
  have p8 : (16 : Nat) ^ (2 * 8) = 18446744073709551616 := by decide
  have p1 : (16 : Nat) ^ (2 * 1) = 256 := by decide
  have l8 : c < 16 ^ (2 * 8) := by rw [p8]; omega
  have l1 : k < 16 ^ (2 * 1) := by rw [p1]; omega
  have e8 : q.number 8 = (⟨q.s, A.size + 16, 0⟩, c) := number_at (A := A) (C := numB 2 k ++ C) 8 c (by decide) l8 (by rw [hs]; apply ext_list; simp only [app_list]; simp) hp he
  have e1 : (St.mk q.s (A.size + 16) 0).number 1 = (⟨q.s, A.size + 18, 0⟩, k) := by
    have := number_at (q := St.mk q.s (A.size + 16) 0) (A := A ++ numB 16 c) (C := C) 1 k (by decide) l1 (by show q.s = _; rw [hs]; apply ext_list; simp only [app_list]; simp) (by rw [ByteArray.size_append, numB_size]) rfl
    rw [ByteArray.size_append, numB_size] at this
    exact this
  have er : q.read = ⟨c, k⟩ := by
    unfold St.read
    rw [e8, e1]
  unfold St.stamp
  rw [er, if_pos hok, e8, e1]
  rfl
end Go.Wire
