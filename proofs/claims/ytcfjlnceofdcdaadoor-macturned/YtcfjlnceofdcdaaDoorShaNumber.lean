/- The contract of putting the lowest bytes of a number behind others. -/
import Derived.Test.YtcfjlnceofdcdaaDoorRows
import Derived.Test.YtcfjlnceofdcdaaDoorShaLeaves
import Derived.Test.YtcfjlnceofdcdaaDoorBytes
import Derived.WalkKit
import Derived.WalkSpells
import Derived.WalkLawsBesides
import Derived.Deep.QuietTactic
import Derived.Deep.RegionWith
import Derived.Test.YtcfjlnceofdcdaaDoorTail
import Derived.BigQuiet
import Derived.Deep.WholeRow
namespace Go.Proofs.YtcfjlnceofdcdaaDoor
open Go.RowKit
theorem info5 : (Tryd.prog.info? 5).map (fun i => (i.zero, i.size, i.bytes)) = some (some (.int .u8 0), 1, 1) := by kernel_rfl
theorem under46 : Tryd.prog.underlying 40 = some (.slice 5) := by kernel_rfl
theorem ShaW.news_byte (w : World) (c : UInt8) (u : Value) (t : TypeId) (hu : u = Sha.byteV c) : ∀ j x, ([c].map Sha.byteV)[j]? = some x → (w.alloc (.cells #[u] t)).cell? ((⟨w.heap.size, 0, none⟩ : Addr).add j) = some x := by
  intro j x hj
  subst hu
  match j, hj with
  | 0, hj => simp at hj; subst hj; simp [Addr.add]
set_option maxRecDepth 100000 in
set_option maxHeartbeats 1000000 in
theorem number_any (base : Nat) (v : Value) (l : List UInt8) (x : Int) (m : Nat) (w : World) (hown : ByteRow.Has base w v l) (hbase : base ≤ w.heap.size) (hl : l.length ≤ 1000000) (hm : m ≤ 8) :
    Calls Tryd.prog 27 #[v, .int .u64 x, .int .i64 m] w fun e w' => ∃ v', e = .returned v' ∧ ByteRow.Has base w' v' (l ++ Sha.be x m) ∧ Below base w w' := by
  obtain ⟨i0, hi, hz0, hz1, hz2⟩ := info_parts info5
  have hm2 : (m : Int) ≤ 8 := by omega
  go_enter Tryd.func27, Tryd.ntmps27
  go_wp2
  go_loopw [0, 7] (fun b i wr => ∃ (j : Nat) (p : List UInt8), j ≤ m ∧ i = .int .i64 ((j : Int) - 1) ∧ Hid (p ++ Sha.be x j = Sha.be x m) ∧ Hid (ByteRow.Has base wr b (l ++ p) ∧ base ≤ wr.heap.size ∧ Below base w wr)) (fun _ i _ => (intOf i + 1).toNat)
  case atStart => exact ⟨m, [], Nat.le_refl _, rfl, rfl, by rw [List.append_nil]; exact hown, hbase, Below.refl _ _⟩
  case round =>
    clear hown
    obtain ⟨j, p, hj, rfl, hp, HH⟩ := hrel
    have hj2 : (j : Int) ≤ 8 := by omega
    by_cases hlt : 0 < j
    · obtain ⟨i, rfl⟩ : ∃ i, j = i + 1 := ⟨j - 1, by omega⟩
      have e1 : ((i + 1 : Nat) : Int) - 1 = (i : Int) := by omega
      rw [e1]
      have HP : Hid (p.length + (i + 1) = m) := by have := congrArg List.length hp.out; simp only [List.length_append, Sha.be_length] at this; exact this
      go_wp2_with (at_builtin; refine ByteRow.append _ rfl _ _ 40 rfl 5 i0 under46 hi hz0 hz1 hz2 base _ (l ++ p) rfl (HH.out.1.alloc _) ?_ ⟨wr.heap.size, 0, none⟩ 1 1 [Sha.byteOf (x / 2 ^ (8 * i))] rfl rfl (ShaW.news_byte _ _ _ _ (Sha.byteV_of _).symm) ?_ ?_)
      · have := HH.out.2.1; simp; omega
      · have := HP.out; simp; omega
      · intro v' w1 hown' hgrow
        have HR : Hid (ByteRow.Has base w1 v' (l ++ (p ++ [Sha.byteOf (x / 2 ^ (8 * i))])) ∧ base ≤ w1.heap.size ∧ Below base w w1) := by
          obtain ⟨h1, h2, h3⟩ := HH.out
          exact ⟨hown', by have := hgrow.size; simp at this; omega, (h3.alloc h2 _).trans hgrow⟩
        clear hown' hgrow
        go_wp2
        go_roundw
        case rel => exact ⟨i, p ++ [Sha.byteOf (x / 2 ^ (8 * i))], by omega, by go_num, by rw [← hp.out, List.append_assoc]; rfl, HR.out⟩
        case measure => simp [intOf]
    · have hj0 : j = 0 := by omega
      subst hj0
      have hpm : p = Sha.be x m := by have := hp.out; rwa [show Sha.be x 0 = [] from rfl, List.append_nil] at this
      go_wp2
      go_ret
      exact ⟨_, rfl, by rw [← hpm]; exact HH.out.1, HH.out.2.2⟩
end Go.Proofs.YtcfjlnceofdcdaaDoor
