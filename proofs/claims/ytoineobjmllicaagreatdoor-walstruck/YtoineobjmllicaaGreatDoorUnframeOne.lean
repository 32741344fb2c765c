/- Several texts in one: WireUnframe. -/
import Derived.Test.YtoineobjmllicaaGreatDoorWirTwo
import Derived.Test.YtoineobjmllicaaGreatDoorWirThree
import Derived.Test.YtoineobjmllicaaGreatDoorWirFour
/- Contracts of taking a frame: the program's and the document's. -/
namespace Go.Wire
/-- What the reader has behind a frame's count, check and text. -/
def St.f1 (q : St) : St × Nat := q.count 2147483647
def St.f2 (q : St) : St × Nat := q.f1.1.number 4
def St.f3 (q : St) : St × ByteArray := q.f2.1.bytes q.f1.2
def unf (q : St) (p : Int) : ByteArray × Int × Int :=
  if q.f3.1.err ≠ 0 then (⟨#[]⟩, 0, q.f3.1.err) else if q.f2.2 ≠ fnv (textB q.f3.2).data.toList then (⟨#[]⟩, 0, 6) else (q.f3.2, p + q.f3.1.pos, 0)
def unframe (s : ByteArray) (p : Int) : ByteArray × Int × Int :=
  if p < 0 ∨ s.size < p then (⟨#[]⟩, 0, 1) else unf ⟨s.extract p.toNat s.size, 0, 0⟩ p
theorem St.f1_s (q : St) : q.f1.1.s = q.s := q.count_s _
theorem St.f2_s (q : St) : q.f2.1.s = q.s := by rw [St.f2, St.number_s, St.f1_s]
theorem St.f3_s (q : St) : q.f3.1.s = q.s := by rw [St.f3, St.bytes_s, St.f2_s]
theorem St.f1_le (q : St) (h : q.pos ≤ q.s.size) : q.f1.1.pos ≤ q.s.size := q.count_le _ h
theorem St.f2_le (q : St) (h : q.pos ≤ q.s.size) : q.f2.1.pos ≤ q.s.size := by
  have := q.f1.1.number_le 4 (by rw [St.f1_s]; exact q.f1_le h)
  rwa [St.f1_s] at this
theorem St.f3_le (q : St) (h : q.pos ≤ q.s.size) : q.f3.1.pos ≤ q.s.size := by
  have := q.f2.1.bytes_le q.f1.2 (by rw [St.f2_s]; exact q.f2_le h)
  rwa [St.f2_s] at this
theorem St.f1_lt (q : St) : q.f1.2 < 4294967296 := q.count_lt _
theorem St.f2_lt (q : St) : q.f2.2 < 4294967296 := q.f1.1.number_lt 4 (by decide)
theorem St.f3_size (q : St) (h : q.pos ≤ q.s.size) : q.f3.2.size ≤ q.s.size := by
  have h2 := q.f2_le h
  have hs := q.f2_s
  unfold St.f3
  unfold St.bytes
  split
  · exact Nat.zero_le _
  · split
    · exact Nat.zero_le _
    · split
      · exact Nat.zero_le _
      · rw [ByteArray.size_extract, hs]; omega
end Go.Wire
namespace Go.Proofs.YtoineobjmllicaaGreatDoor
open Go.RowKit Go.Wire
theorem results_tmp3 {fn : Func} {t u v : Tmp} (h : fn.results = #[.tmp t, .tmp u, .tmp v]) (tmps : Array Value) (P : Program) (w : World) :
    (results fn tmps).run P w = .ok (.tuple #[tmps.getD t undef, tmps.getD u undef, tmps.getD v undef]) w := by
  simp [results, h]
set_option maxHeartbeats 1000000 in
theorem unframe_any (s : ByteArray) (p : Int) (w : World) (hs : s.size ≤ 1000000) :
    Calls Tryz.prog 111 #[.string s, .int .i64 p] w fun e w' => e = .returned (.tuple #[.string (unframe s p).1, .int .i64 (unframe s p).2.1, .int .i64 (unframe s p).2.2]) ∧ Below w.heap.size w w' := by
  by_cases hp : p < 0 ∨ s.size < p
  · rw [unframe, if_pos hp]
    by_cases h0 : p < 0
    · clear hp
      go_enter Tryz.func111, Tryz.ntmps111
      go_wp2
      refine bodyPost_ret (results_tmp3 rfl _ _ _) rfl ?_
      exact ⟨rfl, Below.refl _ _⟩
    · have h1 : (s.size : Int) < p := by omega
      clear hp
      go_enter Tryz.func111, Tryz.ntmps111
      go_wp2
      refine bodyPost_ret (results_tmp3 rfl _ _ _) rfl ?_
      exact ⟨rfl, Below.refl _ _⟩
  · rw [unframe, if_neg hp, unf]
    obtain ⟨m, rfl⟩ : ∃ m : Nat, p = m := ⟨p.toNat, by omega⟩
    have hm : m ≤ s.size := by omega
    clear hp
    rw [Int.toNat_natCast]
    have hsz : (s.extract m s.size).size ≤ 1000000 := by rw [ByteArray.size_extract]; omega
    generalize hr : s.extract m s.size = r at hsz
    have HR : Hid (s.extract m s.size = r) := hr
    clear hr
    have hrl : r.size ≤ maxLen := by unfold maxLen; omega
    have s1 := (St.mk r 0 0).f1_s
    have s2 := (St.mk r 0 0).f2_s
    have s3 := (St.mk r 0 0).f3_s
    have l1 := (St.mk r 0 0).f1_le (Nat.zero_le _)
    have l2 := (St.mk r 0 0).f2_le (Nat.zero_le _)
    have l3 := (St.mk r 0 0).f3_le (Nat.zero_le _)
    have hn1 := (St.mk r 0 0).f1_lt
    have hn2 := (St.mk r 0 0).f2_lt
    have hn3 := (St.mk r 0 0).f3_size (Nat.zero_le _)
    have H1 : ∀ {b : Nat} {w : World}, Rd 201 b ⟨r, 0, 0⟩ w → Hid (Calls Tryz.prog 137 #[.pointer (some ⟨b, 0, none⟩), .int .i64 2147483647] w fun e w' => e = .returned (.int .i64 ((St.mk r 0 0).f1.2 : Nat)) ∧ Rd 201 b (St.mk r 0 0).f1.1 w' ∧ Kept b w w') := fun h => count_any _ _ _ _ h (Nat.zero_le _) hrl (by decide)
    have H2 : ∀ {b : Nat} {w : World}, Rd 201 b (St.mk r 0 0).f1.1 w → Hid (Calls Tryz.prog 138 #[.pointer (some ⟨b, 0, none⟩), .int .i64 4] w fun e w' => e = .returned (.int .u64 ((St.mk r 0 0).f2.2 : Nat)) ∧ Rd 201 b (St.mk r 0 0).f2.1 w' ∧ Kept b w w') := fun h => readerNumber_any _ _ _ _ h (by rw [s1]; exact l1) (by rw [s1]; exact hrl)
    have H3 : ∀ {b : Nat} {w : World}, Rd 201 b (St.mk r 0 0).f2.1 w → Hid (Calls Tryz.prog 139 #[.pointer (some ⟨b, 0, none⟩), .int .i64 ((St.mk r 0 0).f1.2 : Nat)] w fun e w' => e = .returned (.string (St.mk r 0 0).f3.2) ∧ Rd 201 b (St.mk r 0 0).f3.1 w' ∧ Kept b w w') := fun h => bytes_any _ _ _ _ h (by rw [s2]; exact l2) (by rw [s2]; exact hrl)
    have H4 : Hid (∀ w : World, Calls Tryz.prog 71 #[.string (St.mk r 0 0).f3.2] w fun e w' => e = .returned (.string (numB 8 (St.mk r 0 0).f3.2.size)) ∧ Below w.heap.size w w') := fun w => count8_any _ w (by have : (St.mk r 0 0).f3.2.size ≤ r.size := hn3; unfold maxLen; omega)
    have H5 : Hid (∀ w : World, Calls Tryz.prog 73 #[.string (numB 8 (St.mk r 0 0).f3.2.size ++ (St.mk r 0 0).f3.2)] w fun e w' => e = .returned (.int .u32 (fnv (textB (St.mk r 0 0).f3.2).data.toList)) ∧ w' = w) := fun w => fnv_any _ w (by have : (St.mk r 0 0).f3.2.size ≤ r.size := hn3; rw [ByteArray.size_append, numB_size]; unfold maxLen; omega)
    have hz := numB_size 8 (St.mk r 0 0).f3.2.size
    have hf := fnv_lt (textB (St.mk r 0 0).f3.2).data.toList
    generalize fnv (textB (St.mk r 0 0).f3.2).data.toList = x at H5 hf
    generalize numB 8 (St.mk r 0 0).f3.2.size = c at H4 H5 hz
    generalize (St.mk r 0 0).f3.2 = t at H3 H4 H5 hn3
    generalize (St.mk r 0 0).f3.1 = q3 at H3 s3 l3
    generalize (St.mk r 0 0).f2.2 = y at H2 hn2
    generalize (St.mk r 0 0).f2.1 = q2 at H2 H3 s2 l2
    generalize (St.mk r 0 0).f1.2 = n at H1 H3 hn1
    generalize (St.mk r 0 0).f1.1 = q1 at H1 H2 s1 l1
    clear s1 s2 l1 l2
    simp only at s3 l3 hn3
    have K : ∀ {b : Nat} {q : St} {w w' : World}, Rd 201 b q w → Below w.heap.size w w' → Rd 201 b q w' := fun h k => kept_block h k
    obtain ⟨r3, p3, e3⟩ := q3
    simp only at s3 l3
    subst s3
    have T : ∀ {a b c : World}, Below a.heap.size a b → Below b.heap.size b c → Below a.heap.size a c := fun x y => x.trans (y.mono x.size)
    by_cases hxy : y = x
    · subst hxy
      by_cases he3 : e3 = 0
      · subst he3
        rw [if_neg (by simp), if_neg (by simp)]
        go_enter Tryz.func111, Tryz.ntmps111
        go_wp2_with fail
        rw [HR.out]
        go_wp2_with (first
          | (go_at_call 136; refine (newReader_any _ _).mono ?_; rintro e w1 ⟨rfl, h1, k1⟩)
          | (go_at_call 137; refine (H1 (by assumption)).out.mono ?_; rintro e w2 ⟨rfl, h2, k2⟩)
          | (go_at_call 138; refine (H2 (by assumption)).out.mono ?_; rintro e w3 ⟨rfl, h3, k3⟩)
          | (go_at_call 139; refine (H3 (by assumption)).out.mono ?_; rintro e w4 ⟨rfl, h4, k4⟩)
          | (go_at_call 71; refine (H4.out _).mono ?_; rintro e w5 ⟨rfl, k5⟩; have h5 := K h4 k5)
          | (go_at_call 73; refine (H5.out _).mono ?_; rintro e w' ⟨rfl, rfl⟩)
          | (go_at_call 141; refine (err_any _ _ _ h5).mono ?_; rintro e w' ⟨rfl, rfl⟩)
          | (go_at_call 142; refine (at_any _ _ _ h5).mono ?_; rintro e w' ⟨rfl, rfl⟩))
        refine bodyPost_ret (results_tmp3 rfl _ _ _) rfl ?_
        have kk := ((k1.trans k2.below).trans k3.below).trans k4.below
        exact ⟨rfl, kk.trans (k5.mono kk.size)⟩
      · rw [if_pos he3]
        go_enter Tryz.func111, Tryz.ntmps111
        go_wp2_with fail
        rw [HR.out]
        go_wp2_with (first
          | (go_at_call 136; refine (newReader_any _ _).mono ?_; rintro e w1 ⟨rfl, h1, k1⟩)
          | (go_at_call 137; refine (H1 (by assumption)).out.mono ?_; rintro e w2 ⟨rfl, h2, k2⟩)
          | (go_at_call 138; refine (H2 (by assumption)).out.mono ?_; rintro e w3 ⟨rfl, h3, k3⟩)
          | (go_at_call 139; refine (H3 (by assumption)).out.mono ?_; rintro e w4 ⟨rfl, h4, k4⟩)
          | (go_at_call 71; refine (H4.out _).mono ?_; rintro e w5 ⟨rfl, k5⟩; have h5 := K h4 k5)
          | (go_at_call 73; refine (H5.out _).mono ?_; rintro e w' ⟨rfl, rfl⟩)
          | (go_at_call 141; refine (err_any _ _ _ h5).mono ?_; rintro e w' ⟨rfl, rfl⟩))
        refine bodyPost_ret (results_tmp3 rfl _ _ _) rfl ?_
        have kk := ((k1.trans k2.below).trans k3.below).trans k4.below
        exact ⟨rfl, kk.trans (k5.mono kk.size)⟩
    · have hxy2 : ((y : Int) == (x : Int)) = false := beq_eq_false_iff_ne.2 (by omega)
      by_cases he3 : e3 = 0
      · subst he3
        rw [if_neg (by simp), if_pos hxy]
        go_enter Tryz.func111, Tryz.ntmps111
        go_wp2_with fail
        rw [HR.out]
        go_wp2_with (first
          | (go_at_call 136; refine (newReader_any _ _).mono ?_; rintro e w1 ⟨rfl, h1, k1⟩)
          | (go_at_call 137; refine (H1 (by assumption)).out.mono ?_; rintro e w2 ⟨rfl, h2, k2⟩)
          | (go_at_call 138; refine (H2 (by assumption)).out.mono ?_; rintro e w3 ⟨rfl, h3, k3⟩)
          | (go_at_call 139; refine (H3 (by assumption)).out.mono ?_; rintro e w4 ⟨rfl, h4, k4⟩)
          | (go_at_call 71; refine (H4.out _).mono ?_; rintro e w5 ⟨rfl, k5⟩; have h5 := K h4 k5)
          | (go_at_call 73; refine (H5.out _).mono ?_; rintro e w' ⟨rfl, rfl⟩)
          | (go_at_call 140; refine (fail_any _ _ 6 _ h5).mono ?_; rintro e w6 ⟨rfl, h6, k6⟩; rw [St.fail, if_pos rfl] at h6)
          | (go_at_call 141; refine (err_any _ _ _ h6).mono ?_; rintro e w' ⟨rfl, rfl⟩))
        refine bodyPost_ret (results_tmp3 rfl _ _ _) rfl ?_
        have kk := ((k1.trans k2.below).trans k3.below).trans k4.below
        exact ⟨rfl, (kk.trans (k5.mono kk.size)).trans k6.below⟩
      · rw [if_pos he3]
        go_enter Tryz.func111, Tryz.ntmps111
        go_wp2_with fail
        rw [HR.out]
        go_wp2_with (first
          | (go_at_call 136; refine (newReader_any _ _).mono ?_; rintro e w1 ⟨rfl, h1, k1⟩)
          | (go_at_call 137; refine (H1 (by assumption)).out.mono ?_; rintro e w2 ⟨rfl, h2, k2⟩)
          | (go_at_call 138; refine (H2 (by assumption)).out.mono ?_; rintro e w3 ⟨rfl, h3, k3⟩)
          | (go_at_call 139; refine (H3 (by assumption)).out.mono ?_; rintro e w4 ⟨rfl, h4, k4⟩)
          | (go_at_call 71; refine (H4.out _).mono ?_; rintro e w5 ⟨rfl, k5⟩; have h5 := K h4 k5)
          | (go_at_call 73; refine (H5.out _).mono ?_; rintro e w' ⟨rfl, rfl⟩)
          | (go_at_call 140; refine (fail_any _ _ 6 _ h5).mono ?_; rintro e w6 ⟨rfl, h6, k6⟩; rw [St.fail, if_neg he3] at h6)
          | (go_at_call 141; refine (err_any _ _ _ h6).mono ?_; rintro e w' ⟨rfl, rfl⟩))
        refine bodyPost_ret (results_tmp3 rfl _ _ _) rfl ?_
        have kk := ((k1.trans k2.below).trans k3.below).trans k4.below
        exact ⟨rfl, (kk.trans (k5.mono kk.size)).trans k6.below⟩
end Go.Proofs.YtoineobjmllicaaGreatDoor
