/- The walk of WireNobody. -/
import Derived.Test.YtajbhfejjenloabWireNil
import Derived.Test.YtajbhfejjenloabWireAwake
namespace Go.Wire
open Go.RowKit
theorem WAt.none (T B : Nat) (l : List UInt8) (w : World) : WAt T B (.pointer none) l w := .inl rfl
end Go.Wire
namespace Go.Proofs.Ytajbhfejjenloab
open Go.RowKit Go.Wire
theorem wnil_of {P : Program} {f : FuncId} {args : Array Value} {w : World} {T B : Nat} {l : List UInt8} (hB : B = w.heap.size) (h : Calls P f args w fun e w' => e = .returned (.tuple #[]) ∧ WAt T B (.pointer none) l w' ∧ Below B w w') : Calls P f args w fun e w' => e = .returned (.tuple #[]) ∧ Below w.heap.size w w' :=
  h.mono fun _ _ ⟨a, _, c⟩ => ⟨a, hB ▸ c⟩
set_option maxHeartbeats 1000000 in
theorem wireNobody_any (n : Int) (s : ByteArray) (w : World) (hn : (Lit.int .i64 n).wf = true) (hs : s.size ≤ maxLen) :
    Calls Try.prog 3 #[.int .i64 n, .string s] w fun e w' => e = .returned (.bool true) ∧ Below w.heap.size w w' := by
  have hn1 : -9223372036854775808 ≤ n ∧ n ≤ 9223372036854775807 := by simpa [Lit.wf, IntKind.min, IntKind.max, IntKind.signed, IntKind.bits] using hn
  have hm := hn1.2
  clear hn hn1
  have H1 : Hid (∀ w : World, Calls Try.prog 5 #[.pointer none, .string s] w fun e w' => e = .returned (.tuple #[]) ∧ Below w.heap.size w w') := fun w => wnil_of rfl (wbytes_any w.heap.size _ [] s w (WAt.none _ _ _ _) (.inl rfl) (Nat.le_refl _))
  have H2 : Hid (∀ w : World, Calls Try.prog 6 #[.pointer none, .int .u64 9, .int .i64 n] w fun e w' => e = .returned (.tuple #[]) ∧ Below w.heap.size w w') := fun w => wnil_of rfl (wnumber_any w.heap.size _ [] 9 n w (WAt.none _ _ _ _) (.inl rfl) (Nat.le_refl _) (by decide))
  have H3 : Hid (∀ w : World, Calls Try.prog 7 #[.pointer none, .int .i64 n] w fun e w' => e = .returned (.tuple #[]) ∧ Below w.heap.size w w') := fun w => wnil_of rfl (wcount_any w.heap.size _ [] n w (WAt.none _ _ _ _) (.inl rfl) (Nat.le_refl _) hm)
  have H4 : Hid (∀ w : World, Calls Try.prog 8 #[.pointer none, .string s] w fun e w' => e = .returned (.tuple #[]) ∧ Below w.heap.size w w') := fun w => wnil_of rfl (wtext_any w.heap.size _ [] s w (WAt.none _ _ _ _) (.inl rfl) (Nat.le_refl _) hs)
  have H5 : Hid (∀ w : World, Calls Try.prog 9 #[.pointer none, .string s] w fun e w' => e = .returned (.tuple #[]) ∧ Below w.heap.size w w') := fun w => wnil_of rfl (whash_any w.heap.size _ [] s w (WAt.none _ _ _ _) (.inl rfl) (Nat.le_refl _))
  have H6 : Hid (∀ w : World, Calls Try.prog 10 #[.pointer none, .bool true] w fun e w' => e = .returned (.tuple #[]) ∧ Below w.heap.size w w') := fun w => wnil_of rfl (wbool_any w.heap.size _ [] true w (WAt.none _ _ _ _) (.inl rfl) (Nat.le_refl _))
  have T : ∀ {a b c : World}, Below a.heap.size a b → Below b.heap.size b c → Below a.heap.size a c := fun x y => x.trans (y.mono x.size)
  go_enter Try.func3, Try.ntmps3
  go_wp2_with (first
    | (go_at_call 4; refine (fail_nil _ _).mono ?_; rintro e w' ⟨rfl, rfl⟩)
    | (go_at_call 5; refine (H1.out _).mono ?_; rintro e w1 ⟨rfl, k1⟩)
    | (go_at_call 6; refine (H2.out _).mono ?_; rintro e w2 ⟨rfl, k2⟩; have k2 := T k1 k2; clear k1)
    | (go_at_call 7; refine (H3.out _).mono ?_; rintro e w3 ⟨rfl, k3⟩; have k3 := T k2 k3; clear k2)
    | (go_at_call 8; refine (H4.out _).mono ?_; rintro e w4 ⟨rfl, k4⟩; have k4 := T k3 k4; clear k3)
    | (go_at_call 9; refine (H5.out _).mono ?_; rintro e w5 ⟨rfl, k5⟩; have k5 := T k4 k5; clear k4)
    | (go_at_call 10; refine (H6.out _).mono ?_; rintro e w6 ⟨rfl, k6⟩; have k6 := T k5 k6; clear k5)
    | (go_at_call 11; refine (awake_any _).mono ?_; rintro e w7 ⟨rfl, k7⟩; have k7 := T k6 k7; clear k6)
    | (go_at_call 12; refine (bytes_nil _ _).mono ?_; rintro e w' ⟨rfl, rfl⟩)
    | (go_at_call 13; refine (number_nil _ _).mono ?_; rintro e w' ⟨rfl, rfl⟩)
    | (go_at_call 14; refine (count_nil _ _ hm).mono ?_; rintro e w' ⟨rfl, rfl⟩)
    | (go_at_call 15; refine (text_nil _ _ hm).mono ?_; rintro e w' ⟨rfl, rfl⟩)
    | (go_at_call 16; refine (hash_nil _).mono ?_; rintro e w' ⟨rfl, rfl⟩)
    | (go_at_call 17; refine (bool_nil _).mono ?_; rintro e w' ⟨rfl, rfl⟩)
    | (go_at_call 18; refine (err_nil _).mono ?_; rintro e w' ⟨rfl, rfl⟩)
    | (go_at_call 19; refine (end_nil _).mono ?_; rintro e w' ⟨rfl, rfl⟩)
    | (go_at_call 20; refine (at_nil _).mono ?_; rintro e w' ⟨rfl, rfl⟩)
    | (go_at_call 21; refine (left_nil _).mono ?_; rintro e w' ⟨rfl, rfl⟩)
    | (go_at_call 22; refine (len_nil _).mono ?_; rintro e w' ⟨rfl, rfl⟩)
    | (go_at_call 23; refine (all_nil _).mono ?_; rintro e w' ⟨rfl, rfl⟩))
  go_ret
  exact ⟨rfl, by assumption⟩
end Go.Proofs.Ytajbhfejjenloab
