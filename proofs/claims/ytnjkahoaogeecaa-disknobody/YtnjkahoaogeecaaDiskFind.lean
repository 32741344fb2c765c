/- Contracts: which file has a name, what may be asked of a disk; a file's bytes. -/
import Derived.Test.YtnjkahoaogeecaaDiskAt
import Derived.Test.YtnjkahoaogeecaaDiskNow
namespace Go.Proofs.Ytnjkahoaogeecaa
open Go.RowKit Go.Dk
theorem able_any (base K d : Nat) (S : WD) (s : ByteArray) (r : Int) (w : World) (h : DiskAt Try.prog base K d w S) (hs : s.size ≤ maxLen) (hr : ableOf S.a s.data.toList = r) :
    Calls Try.prog 37 #[.pointer (some ⟨d, 0, none⟩), .string s] w fun e w' => e = .returned (.int .i64 r) ∧ w' = w := by
  have HD := hide (dead_any d _ _ _ _ _ _ w h.row)
  unfold ableOf at hr
  cases hd : S.a.down with
  | true =>
    rw [hd] at hr HD
    simp only [if_true] at hr
    subst hr
    go_enter Try.func37, Try.ntmps37
    go_wp2_with (go_at_call 27; refine HD.out.mono ?_; rintro e w' ⟨rfl, rfl⟩)
    go_ret
    exact ⟨rfl, rfl⟩
  | false =>
    rw [hd] at hr HD
    simp only [Bool.false_eq_true, if_false] at hr
    have HN := hide (fun w => name_any s w hs)
    cases hn : nameOk s.data.toList with
    | true =>
      rw [hn] at hr HN
      simp only [if_true] at hr
      subst hr
      go_enter Try.func37, Try.ntmps37
      go_wp2_with (first
        | (go_at_call 27; refine HD.out.mono ?_; rintro e w' ⟨rfl, rfl⟩)
        | (go_at_call 25; refine (HN.out _).mono ?_; rintro e w' ⟨rfl, rfl⟩))
      go_ret
      exact ⟨rfl, rfl⟩
    | false =>
      rw [hn] at hr HN
      simp only [Bool.false_eq_true, if_false] at hr
      subst hr
      go_enter Try.func37, Try.ntmps37
      go_wp2_with (first
        | (go_at_call 27; refine HD.out.mono ?_; rintro e w' ⟨rfl, rfl⟩)
        | (go_at_call 25; refine (HN.out _).mono ?_; rintro e w' ⟨rfl, rfl⟩))
      go_ret
      exact ⟨rfl, rfl⟩
theorem able_nil (s : ByteArray) (w : World) : Calls Try.prog 37 #[.pointer none, .string s] w fun e w' => e = .returned (.int .i64 7) ∧ w' = w := by
  go_enter Try.func37, Try.ntmps37
  go_wp2_with (go_at_call 27; refine (dead_nil _).mono ?_; rintro e w' ⟨rfl, rfl⟩)
  go_ret
  exact ⟨rfl, rfl⟩
theorem look_any {base K d : Nat} {S : WD} {w : World} (h : DiskAt Try.prog base K d w S) (s : ByteArray) (hs : s.size ≤ maxLen) :
    (Instr.lookup 72 (.map S.mb) (.string s) false).run Try.prog w = .ok (match seek WF.nm s.data.toList S.fs with | some F => fptr F.blk | none => .pointer none) w :=
  h.map.look Try.underlying9 Try.underlying72 (Try.zeroValue68 w) s hs
theorem find_err (base K d : Nat) (S : WD) (s : ByteArray) (r : Int) (w : World) (h : DiskAt Try.prog base K d w S) (hs : s.size ≤ maxLen) (hr : ableOf S.a s.data.toList = r) (h0 : r ≠ 0) :
    Calls Try.prog 42 #[.pointer (some ⟨d, 0, none⟩), .string s] w fun e w' => e = .returned (.tuple #[.pointer none, .int .i64 r]) ∧ w' = w := by
  have HA := hide (able_any base K d S s r w h hs hr)
  clear h hs hr
  have hne : (r != 0) = true := by simpa using h0
  go_enter Try.func42, Try.ntmps42
  go_wp2_with (go_at_call 37; refine HA.out.mono ?_; rintro e w' ⟨rfl, rfl⟩)
  go_ret2
  exact ⟨rfl, rfl⟩
theorem find_nil (s : ByteArray) (w : World) : Calls Try.prog 42 #[.pointer none, .string s] w fun e w' => e = .returned (.tuple #[.pointer none, .int .i64 7]) ∧ w' = w := by
  go_enter Try.func42, Try.ntmps42
  go_wp2_with (go_at_call 37; refine (able_nil s _).mono ?_; rintro e w' ⟨rfl, rfl⟩)
  go_ret2
  exact ⟨rfl, rfl⟩
theorem find_none (base K d : Nat) (S : WD) (s : ByteArray) (w : World) (h : DiskAt Try.prog base K d w S) (hs : s.size ≤ maxLen) (hr : ableOf S.a s.data.toList = 0) (hf : seek WF.nm s.data.toList S.fs = none) :
    Calls Try.prog 42 #[.pointer (some ⟨d, 0, none⟩), .string s] w fun e w' => e = .returned (.tuple #[.pointer none, .int .i64 2]) ∧ w' = w := by
  have HA := hide (able_any base K d S s 0 w h hs hr)
  have hl := look_any h s hs
  rw [hf] at hl
  simp only at hl
  obtain ⟨c0, -⟩ := cells6 h.row
  clear h hs hr hf
  go_enter Try.func42, Try.ntmps42
  go_wp2_with (go_at_call 37; refine HA.out.mono ?_; rintro e w' ⟨rfl, rfl⟩)
  go_ret2
  exact ⟨rfl, rfl⟩
theorem find_some (base K d : Nat) (S : WD) (s : ByteArray) (F : WF) (w : World) (h : DiskAt Try.prog base K d w S) (hs : s.size ≤ maxLen) (hr : ableOf S.a s.data.toList = 0) (hf : seek WF.nm s.data.toList S.fs = some F) :
    Calls Try.prog 42 #[.pointer (some ⟨d, 0, none⟩), .string s] w fun e w' => e = .returned (.tuple #[.pointer (some ⟨F.blk, 0, none⟩), .int .i64 0]) ∧ w' = w := by
  have HA := hide (able_any base K d S s 0 w h hs hr)
  have hl := look_any h s hs
  rw [hf] at hl
  simp only [fptr] at hl
  obtain ⟨c0, -⟩ := cells6 h.row
  clear h hs hr hf
  generalize F.blk = B at *
  go_enter Try.func42, Try.ntmps42
  go_wp2_with (go_at_call 37; refine HA.out.mono ?_; rintro e w' ⟨rfl, rfl⟩)
  go_ret2
  exact ⟨rfl, rfl⟩
theorem open_none (base K d : Nat) (S : WD) (s : ByteArray) (w : World) (h : DiskAt Try.prog base K d w S) (hs : s.size ≤ maxLen) (hf : seek WF.nm s.data.toList S.fs = none) :
    Calls Try.prog 39 #[.pointer (some ⟨d, 0, none⟩), .string s] w fun e w' => e = .returned (.pointer (some ⟨w.heap.size, 0, none⟩)) ∧ w'.heap[w.heap.size]? = some (.cells #[.bool false, .slice none 0 0, .slice none 0 0] 82 (0, 0)) ∧ Below w.heap.size w w' ∧ w'.heap.size = w.heap.size + 1 := by
  have hl := look_any h s hs
  rw [hf] at hl
  simp only at hl
  obtain ⟨c0, -⟩ := cells6 h.row
  clear h hs hf
  go_enter Try.func39, Try.ntmps39
  go_wp2
  go_ret
  exact ⟨rfl, heap_alloc_new _ _, (Below.refl _ _).alloc (Nat.le_refl _) _, by simp⟩
theorem open_some (base K d : Nat) (S : WD) (s : ByteArray) (F : WF) (w : World) (h : DiskAt Try.prog base K d w S) (hs : s.size ≤ maxLen) (hf : seek WF.nm s.data.toList S.fs = some F) :
    Calls Try.prog 39 #[.pointer (some ⟨d, 0, none⟩), .string s] w fun e w' => e = .returned (.pointer (some ⟨F.blk, 0, none⟩)) ∧ w' = w := by
  have hl := look_any h s hs
  rw [hf] at hl
  simp only [fptr] at hl
  obtain ⟨c0, -⟩ := cells6 h.row
  clear h hs hf
  generalize F.blk = B at *
  go_enter Try.func39, Try.ntmps39
  go_wp2
  go_ret
  exact ⟨rfl, rfl⟩
end Go.Proofs.Ytnjkahoaogeecaa
