/- The contract of putting the lowest bytes of a number behind others, where the row is one of the call's own. -/
import Derived.Test.YtcfjlnceofdcdaaDoorRows
import Derived.Test.YtcfjlnceofdcdaaDoorShaNumber
import Derived.WalkKit
import Derived.WalkSpells
import Derived.WalkLawsBesides
import Derived.Deep.QuietTactic
import Derived.Deep.RegionWith
import Derived.Test.YtcfjlnceofdcdaaDoorTail
import Derived.BigQuiet
import Derived.Deep.WholeRow
namespace Go.Proofs.YtcfjlnceofdcdaaDoor
open Go.RowKit
theorem ShaW.news_one (w : World) (u : Value) (t : TypeId) : ∀ j x, [u][j]? = some x → (w.alloc (.cells #[u] t)).cell? ((⟨w.heap.size, 0, none⟩ : Addr).add j) = some x := by
  intro j x hj
  match j, hj with
  | 0, hj => simp at hj; subst hj; simp [Addr.add]
set_option maxRecDepth 100000 in
set_option maxHeartbeats 1000000 in
theorem number_own (base : Nat) (v : Value) (l : List UInt8) (x : Int) (m : Nat) (w : World) (hown : w.ownsRow base 5 1 v l.length (l.map Sha.byteV)) (hbase : base ≤ w.heap.size) (hl : l.length ≤ 1000000) (hm : m ≤ 8) :
    Calls Tryd.prog 27 #[v, .int .u64 x, .int .i64 m] w fun e w' => ∃ v', e = .returned v' ∧ w'.ownsRow base 5 1 v' (l ++ Sha.be x m).length ((l ++ Sha.be x m).map Sha.byteV) ∧ Below base w w' := by
  obtain ⟨i0, hi, hz0, hz1, hz2⟩ := info_parts info5
  have hm2 : (m : Int) ≤ 8 := by omega
  go_enter Tryd.func27, Tryd.ntmps27
  go_wp2
  go_loopw [0, 7] (fun b i wr => ∃ (j : Nat) (p : List UInt8), j ≤ m ∧ i = .int .i64 ((j : Int) - 1) ∧ Hid (p ++ Sha.be x j = Sha.be x m) ∧ Hid (wr.ownsRow base 5 1 b (l ++ p).length ((l ++ p).map Sha.byteV) ∧ base ≤ wr.heap.size ∧ Below base w wr)) (fun _ i _ => (intOf i + 1).toNat)
  case atStart => exact ⟨m, [], Nat.le_refl _, rfl, rfl, by rw [List.append_nil]; exact hown, hbase, Below.refl _ _⟩
  case round =>
    clear hown
    obtain ⟨j, p, hj, rfl, hp, HH⟩ := hrel
    have hj2 : (j : Int) ≤ 8 := by omega
    by_cases hlt : 0 < j
    · obtain ⟨i, rfl⟩ : ∃ i, j = i + 1 := ⟨j - 1, by omega⟩
      have e1 : ((i + 1 : Nat) : Int) - 1 = (i : Int) := by omega
      rw [e1]
      have HPH : Hid (p.length + (i + 1) = m) := by have := congrArg List.length hp.out; simp only [List.length_append, Sha.be_length] at this; exact this
      go_wp2_with (at_builtin; refine wpList_append_own _ rfl _ _ 40 rfl base 5 i0 (.int .u8 0) 1 1 under46 hi hz0 hz1 hz2 rfl (by decide) _ _ _ rfl (HH.out.1.alloc _) ⟨wr.heap.size, 0, none⟩ 1 1 [_] rfl rfl (ShaW.news_one _ _ _) ?_ ?_ ?_ ?_ ?_)
      · intro u hu; simp at hu; subst hu; rfl
      · have := HPH.out; unfold maxLen; simp; omega
      · have := HPH.out; simp; omega
      · have := HH.out.2.1; simp; omega
      · intro v' w1 hown' hgrow _
        have hown2 : Hid (w1.ownsRow base 5 1 v' (l ++ (p ++ [Sha.byteOf (x / 2 ^ (8 * i))])).length ((l ++ (p ++ [Sha.byteOf (x / 2 ^ (8 * i))])).map Sha.byteV)) := by
          have e2 : (l ++ (p ++ [Sha.byteOf (x / 2 ^ (8 * i))])).length = l.length + p.length + 1 := by simp; omega
          rw [e2]
          simp only [List.map_append, List.map_cons, List.map_nil, Sha.byteV_of]
          exact hown'
        have hrow : Hid (∀ k, u0.ownBlock = some k → base ≤ k) := fun k hk => (HH.out.1.lt k hk).1
        have hgr : Hid (base ≤ w1.heap.size ∧ Below base w w1) := by
          obtain ⟨h1, h2, h3⟩ := HH.out
          exact ⟨by have := hgrow.size; simp at this; omega, (h3.alloc h2 _).grown hgrow (by simp; omega) hrow.out⟩
        clear hown' hgrow
        go_wp2
        go_roundw
        case rel => exact ⟨i, p ++ [Sha.byteOf (x / 2 ^ (8 * i))], by omega, by go_num, by rw [← hp.out, List.append_assoc]; rfl, hown2.out, hgr.out.1, hgr.out.2⟩
        case measure => simp [intOf]
    · have hj0 : j = 0 := by omega
      subst hj0
      have hpm : p = Sha.be x m := by have := hp.out; rwa [show Sha.be x 0 = [] from rfl, List.append_nil] at this
      go_wp2
      go_ret
      exact ⟨_, rfl, by rw [← hpm]; exact HH.out.1, HH.out.2.2⟩
end Go.Proofs.YtcfjlnceofdcdaaDoor
