/- The walk of DiskNobody. -/
import Derived.Test.YtnjkahoaogeecaaDiskNil
import Derived.Test.YtnjkahoaogeecaaDiskAwake
import Derived.Test.YtnjkahoaogeecaaDiskOpen
namespace Go.Proofs.Ytnjkahoaogeecaa
open Go.RowKit Go.Dk
set_option maxRecDepth 100000 in
set_option maxHeartbeats 2000000 in
theorem diskNobody_any (s : ByteArray) (a : Ac) (w : World) (hs : s.size ≤ maxLen) :
    Calls Try.prog 7 #[.string s, a.v] w fun e w' => e = .returned (.bool true) ∧ Below w.heap.size w w' := by
  obtain ⟨kind, name, dst, s1, n, on, keep, torn⟩ := a
  have HN := hide (fun w => name_any s w hs)
  have HR := hide (fun w => rname_any s w hs)
  have HA := hide awake_any
  clear hs
  generalize nameOk s.data.toList = r at HN HR
  unfold Ac.v Ac.cs
  go_enter Try.func7, Try.ntmps7
  go_wp2_with (first
    | (go_at_call 23; refine (room_nil _ _).mono ?_; rintro e w' ⟨rfl, rfl⟩)
    | (go_at_call 24; refine (plan_nil _ _).mono ?_; rintro e w' ⟨rfl, rfl⟩)
    | (go_at_call 17; refine (crash_nil _ _ _).mono ?_; rintro e w' ⟨rfl, rfl⟩)
    | (go_at_call 19; refine (read_nil _ _).mono ?_; rintro e w' ⟨rfl, rfl⟩)
    | (go_at_call 11; refine (HA.out _).mono ?_; rintro e w1 ⟨rfl, k1⟩)
    | (go_at_call 25; refine (HN.out _).mono ?_; rintro e w' ⟨rfl, rfl⟩)
    | (go_at_call 26; refine (HR.out _).mono ?_; rintro e w' ⟨rfl, rfl⟩)
    | (go_at_call 27; refine (dead_nil _).mono ?_; rintro e w' ⟨rfl, rfl⟩)
    | (go_at_call 18; refine (up_nil _).mono ?_; rintro e w' ⟨rfl, rfl⟩)
    | (go_at_call 13; refine (append_nil _ _ _).mono ?_; rintro e w' ⟨rfl, rfl⟩)
    | (go_at_call 12; refine (write_nil _ _ _).mono ?_; rintro e w' ⟨rfl, rfl⟩)
    | (go_at_call 15; refine (move_nil _ _ _).mono ?_; rintro e w2 ⟨rfl, k2⟩)
    | (go_at_call 28; refine (remove_nil _ _).mono ?_; rintro e w3 ⟨rfl, k3⟩)
    | (go_at_call 16; refine (truncate_nil _ _ _).mono ?_; rintro e w4 ⟨rfl, k4⟩)
    | (go_at_call 14; refine (sync_nil _).mono ?_; rintro e w' ⟨rfl, rfl⟩)
    | (go_at_call 21; refine (names_nil _).mono ?_; rintro e w' ⟨rfl, rfl⟩)
    | (go_at_call 22; refine (used_nil _).mono ?_; rintro e w' ⟨rfl, rfl⟩)
    | (go_at_call 29; refine (changes_nil _).mono ?_; rintro e w' ⟨rfl, rfl⟩)
    | (go_at_call 20; refine (loose_nil _).mono ?_; rintro e w' ⟨rfl, rfl⟩)
    | (go_at_call 30; refine (clone_nil _).mono ?_; rintro e w' ⟨rfl, rfl⟩))
  go_ret
  refine ⟨rfl, ?_⟩
  have h12 := k1.trans (k2.mono k1.size)
  have h13 := h12.trans (k3.mono h12.size)
  have h14 := h13.trans (k4.mono h13.size)
  exact (((Below.refl _ w).alloc (Nat.le_refl _) _).alloc (by simp) _).trans (h14.mono (by simp; omega))
end Go.Proofs.Ytnjkahoaogeecaa
