/- Contract of the laws' own look: of ten loose bytes eight are kept. -/
import Derived.Test.YtnjkahoaogeecaaDiskAppend
namespace Go.Dk
open Go.RowKit
/-- A disk without files. -/
def bare (room : Int) : WD := ⟨⟨[], room, none, 0, false⟩, 0, none, .slice none 0 0, []⟩
def ten : Bs := [48, 49, 50, 51, 52, 53, 54, 55, 56, 57]
def eight : Bs := [48, 49, 50, 51, 52, 53, 54, 55]
theorem awake_puts : (bare (-1)).a.puts ((bare (-1)).a.fileOf [97]) ⟨ten, false⟩ = ⟨[⟨[97], [], false, [⟨ten, false⟩]⟩], -1, none, 1, false⟩ := by rfl
theorem awake_falls : A.crash ⟨[⟨[97], [], false, [⟨ten, false⟩]⟩], -1, none, 1, false⟩ 0 1 = ⟨[⟨[97], eight, true, []⟩], -1, none, 1, true⟩ := by rfl
theorem seek_of {P : Program} {base K d : Nat} {w : World} {S : WD} (h : DiskAt P base K d w S) {name : Bs} {f : AF} (hf : seek AF.name name S.a.files = some f) : ∃ F, seek WF.nm name S.fs = some F ∧ F.a = f := by
  have := h.seek name
  rw [hf] at this
  cases hs : seek WF.nm name S.fs with
  | none => rw [hs] at this; cases this
  | some F => rw [hs] at this; exact ⟨F, rfl, Option.some.inj this⟩
end Go.Dk
namespace Go.Proofs.Ytnjkahoaogeecaa
open Go.RowKit Go.Dk
theorem fresh_disk (base d : Nat) (w : World) (hb : base ≤ d) (hr : w.heap[d]? = some (.cells (dcells none (.slice none 0 0) 0 false 0 false) 74 (0, 0))) : DiskAt Try.prog base 0 d w (bare (-1)) :=
  ⟨hr, hb, fun h => absurd h (by decide), World.ownsRow_nil _ _ _ _, .inl ⟨rfl, rfl⟩, FilesAt.nil _ _, rfl, fun F hF => (List.not_mem_nil hF).elim, Nat.le_refl _, Nat.le_refl _, by decide⟩
/-- Up, of a disk without power. -/
theorem up_any (base K d : Nat) (S : WD) (w : World) (h : DiskAt Try.prog base K d w S) (hd : S.a.down = true) :
    Calls Try.prog 18 #[.pointer (some ⟨d, 0, none⟩)] w fun e w' => e = .returned (.bool true) ∧ DiskAt Try.prog base K d w' { S with a := { S.a with down := false } } ∧ Dsk base w w' := by
  have hrow := h.row
  unfold drow at hrow
  rw [hd] at hrow
  refine (up_off d _ _ _ _ _ w hrow).mono ?_
  rintro e w' ⟨rfl, hr, t⟩
  exact ⟨rfl, h.reset hr t rfl rfl rfl rfl rfl h.rm h.chg (Nat.le_refl _) h.lim⟩
set_option maxRecDepth 100000 in
set_option maxHeartbeats 1000000 in
theorem awake_any (w : World) : Calls Try.prog 11 #[] w fun e w' => e = .returned (.bool true) ∧ Below w.heap.size w w' := by
  have HA : Hid (∀ w1, DiskAt Try.prog w.heap.size 0 w.heap.size w1 (bare (-1)) → Calls Try.prog 13 #[.pointer (some ⟨w.heap.size, 0, none⟩), .string ⟨#[97]⟩, .string ⟨#[48, 49, 50, 51, 52, 53, 54, 55, 56, 57]⟩] w1 fun e w' => e = .returned (.int .i64 0) ∧
      ∃ T : WD, T.a = ⟨[⟨[97], [], false, [⟨ten, false⟩]⟩], -1, none, 1, false⟩ ∧ DiskAt Try.prog w.heap.size 1 w.heap.size w' T ∧ Dsk w.heap.size w1 w') := fun w1 h1 => by
    have hlt := h1.lt
    refine append_put w.heap.size 0 w.heap.size (bare (-1)) ⟨#[97]⟩ _ w1 h1 (Nat.le_of_lt hlt) (by unfold maxLen; decide) (by rfl) 0 _ fun F w2 hO hFa hb => ?_
    refine (put_calm w.heap.size 0 w.heap.size (bare (-1)) w2 (h1.below hb) F ⟨#[97]⟩ ⟨#[48, 49, 50, 51, 52, 53, 54, 55, 56, 57]⟩ hO (by decide) false _ (.inr ⟨rfl, rfl⟩) ?_ rfl (Nat.le_trans (Nat.le_of_lt hlt) hb.size) (by decide) (by unfold maxLen; decide)).mono ?_
    · rfl
    · rintro e w' ⟨rfl, T, hT, hD, hk⟩
      refine ⟨rfl, T, ?_, hD, Dsk.trans (.of_below hb) hk⟩
      rw [hT, hFa]
      exact awake_puts
  have HC : Hid (∀ w1 (T : WD), T.a = ⟨[⟨[97], [], false, [⟨ten, false⟩]⟩], -1, none, 1, false⟩ → DiskAt Try.prog w.heap.size 1 w.heap.size w1 T → Calls Try.prog 17 #[.pointer (some ⟨w.heap.size, 0, none⟩), .int .i64 0, .int .i64 1] w1 fun e w' => e = .returned (.tuple #[]) ∧
      ∃ T : WD, T.a = ⟨[⟨[97], eight, true, []⟩], -1, none, 1, true⟩ ∧ DiskAt Try.prog w.heap.size 1 w.heap.size w' T ∧ Dsk w.heap.size w1 w') := fun w1 T hT h1 => by
    refine (crash_live w.heap.size 1 w.heap.size T 0 1 w1 h1 (Nat.le_of_lt h1.lt) (by rw [hT])).mono ?_
    rintro e w' ⟨rfl, T', hT', hD, hk⟩
    refine ⟨rfl, T', ?_, hD, hk⟩
    rw [hT', hT]
    exact awake_falls
  have HU : Hid (∀ w1 (T : WD), T.a = ⟨[⟨[97], eight, true, []⟩], -1, none, 1, true⟩ → DiskAt Try.prog w.heap.size 1 w.heap.size w1 T → Calls Try.prog 18 #[.pointer (some ⟨w.heap.size, 0, none⟩)] w1 fun e w' => e = .returned (.bool true) ∧
      ∃ T : WD, T.a = ⟨[⟨[97], eight, true, []⟩], -1, none, 1, false⟩ ∧ DiskAt Try.prog w.heap.size 1 w.heap.size w' T ∧ Dsk w.heap.size w1 w') := fun w1 T hT h1 => by
    refine (up_any w.heap.size 1 w.heap.size T w1 h1 (by rw [hT])).mono ?_
    rintro e w' ⟨rfl, hD, hk⟩
    exact ⟨rfl, _, by rw [hT], hD, hk⟩
  have HR : Hid (∀ w1 (T : WD), T.a = ⟨[⟨[97], eight, true, []⟩], -1, none, 1, false⟩ → DiskAt Try.prog w.heap.size 1 w.heap.size w1 T → Calls Try.prog 19 #[.pointer (some ⟨w.heap.size, 0, none⟩), .string ⟨#[97]⟩] w1 fun e w' => e = .returned (.tuple #[.string ⟨#[48, 49, 50, 51, 52, 53, 54, 55]⟩, .int .i64 0]) ∧ w' = w1) := fun w1 T hT h1 => by
    obtain ⟨F, hF, hFa⟩ := seek_of h1 (name := [97]) (f := ⟨[97], eight, true, []⟩) (by rw [hT]; rfl)
    refine (read_some w.heap.size 1 w.heap.size T ⟨#[97]⟩ F w1 h1 (by unfold maxLen; decide) (by rw [hT]; rfl) hF).mono ?_
    rintro e w' ⟨rfl, rfl⟩
    refine ⟨?_, rfl⟩
    rw [hFa]
    rfl
  have HN := hide (new_any w)
  go_enter Try.func11, Try.ntmps11
  go_wp2_with (first
    | (go_at_call 31; refine HN.out.mono ?_; rintro e w1 ⟨rfl, hr1, k1⟩; have D1 := hide (fresh_disk w.heap.size w.heap.size w1 (Nat.le_refl _) hr1); clear hr1)
    | (go_at_call 13; refine (HA.out w1 D1.out).mono ?_; rintro e w2 ⟨rfl, T2, e2, D2, k2⟩)
    | (go_at_call 17; refine (HC.out w2 T2 e2 D2).mono ?_; rintro e w3 ⟨rfl, T3, e3, D3, k3⟩)
    | (go_at_call 18; refine (HU.out w3 T3 e3 D3).mono ?_; rintro e w4 ⟨rfl, T4, e4, D4, k4⟩)
    | (go_at_call 19; refine (HR.out w4 T4 e4 D4).mono ?_; rintro e w5 ⟨rfl, rfl⟩))
  go_ret
  refine ⟨by rfl, ?_⟩
  exact k1.trans (Dsk.below (Dsk.trans (Dsk.trans k2 k3) k4) k1.size)
end Go.Proofs.Ytnjkahoaogeecaa
