/- The contract of the making of a ring. -/
import Derived.Test.YtcfjlnceofdcdaaDoorMacRing
import Derived.Test.YtcfjlnceofdcdaaDoorShaTagged
import Derived.Test.YtcfjlnceofdcdaaDoorRows2
import Derived.Deep.RegionLaw
namespace Go.Mac
def keyOf (seed : ByteArray) (i : Nat) : ByteArray := ⟨(Sha.ringKey seed.data.toList i).toArray⟩
def keysOf (seed : ByteArray) (n : Nat) : List ByteArray := (List.range n).map (keyOf seed)
theorem keysOf_length (seed : ByteArray) (n : Nat) : (keysOf seed n).length = n := by simp [keysOf]
theorem keysOf_at (seed : ByteArray) (n i : Nat) (h : i < n) : (keysOf seed n)[i]? = some (keyOf seed i) := by simp [keysOf, h]
theorem keysOf_succ (seed : ByteArray) (n : Nat) : keysOf seed (n + 1) = keysOf seed n ++ [keyOf seed n] := by simp [keysOf, List.range_succ]
theorem keyOf_size (seed : ByteArray) (i : Nat) : (keyOf seed i).size = 32 := by show (Sha.ringKey seed.data.toList i).toArray.size = 32; rw [List.size_toArray, Sha.ringKey_length]
end Go.Mac
namespace Go.Proofs.YtcfjlnceofdcdaaDoor
open Go.RowKit
open Go.Sort
theorem wrap_ofNat (i : Nat) : IntKind.u8.wrap (i : Int) = ((UInt8.ofNat i).toNat : Int) := by
  simp [IntKind.wrap, IntKind.bits, IntKind.signed]
/-- string([]byte{c}), where the slice was just laid. -/
theorem one_back (w : World) (c : UInt8) : (convert 40 9 (.slice (some ⟨w.heap.size, 0, none⟩) 1 1)).run Tryd.prog (w.alloc (.cells #[.int .u8 c.toNat] 5)).drew = .ok (.string ⟨#[c]⟩) (w.alloc (.cells #[.int .u8 c.toNat] 5)).drew :=
  run_convert_bytes_back (P := Tryd.prog) _ 40 9 5 ⟨w.heap.size, 0, none⟩ 1 [c] under46 under5 under9 (fun j hj => by
    match j, hj with
    | 0, _ => exact TwoRows.cell_new w _ _)
theorem reads_two (w : World) (A : Obj) (a b : ByteArray) (e : TypeId) : StrRow.Reads ((w.alloc A).alloc (.cells #[.string a, .string b] e)).drew (.slice (some ⟨w.heap.size + 1, 0, none⟩) 2 2) [a, b] := by
  refine .inr ⟨w.heap.size + 1, 0, 2, rfl, by simp, by simp, fun j s hj => ?_⟩
  rw [Nat.zero_add]
  show ((w.alloc A).alloc (.cells #[.string a, .string b] e)).cell? _ = _
  rw [cell_of_row _ _ _ _ _ _ (heap_alloc2_new w _ _)]
  match j, hj with
  | 0, hj => simpa using hj
  | 1, hj => simpa using hj
theorem tagged_key (v : Value) (seed : ByteArray) (i : Nat) (w : World) (hr : StrRow.Reads w v [seed, ⟨#[UInt8.ofNat i]⟩]) (hs : seed.size ≤ 700) (hst : Steps w) :
    Calls Tryd.prog 21 #[.int .u8 82, v] w fun e w' => e = .returned (.string (Mac.keyOf seed i)) ∧ Below w.heap.size w w' :=
  tagged_any 82 v [seed, ⟨#[UInt8.ofNat i]⟩] w hr (by simp) (by
    intro s h
    simp at h
    rcases h with rfl | rfl
    · exact hs
    · show (1 : Nat) ≤ 700; decide) hst
theorem info9 : (Tryd.prog.info? 9).map (fun i => (i.zero, i.size, i.bytes)) = some (some (.string ⟨#[]⟩), 1, 16) := by kernel_rfl
theorem under46s : Tryd.prog.underlying 46 = some (.slice 9) := by kernel_rfl
theorem ring_grown {w wr w2 w3 : World} {sv v3 : Value} {l l3 : List Value} {n : Nat} {t : TypeId} {o : Obj} (h : wr.heap[w.heap.size]? = some (.cells #[sv] t (0, 0)) ∧ wr.ownsRow (w.heap.size + 1) 9 1 sv n l ∧ Below w.heap.size w wr)
    (hb : Below wr.heap.size wr w2) (hlt : w.heap.size < wr.heap.size) (hg : (w2.alloc o).grownBy w3 sv.ownBlock) (h3 : w3.ownsRow (w.heap.size + 1) 9 1 v3 (n + 1) l3) :
    w3.heap[w.heap.size]? = some (.cells #[sv] t (0, 0)) ∧ w3.ownsRow (w.heap.size + 1) 9 1 v3 (n + 1) l3 ∧ Below w.heap.size w w3 := by
  have hs := hb.size
  have hbk : ∀ k, sv.ownBlock = some k → w.heap.size + 1 ≤ k := fun k hk => (h.2.1.lt k hk).1
  refine ⟨?_, h3, ((h.2.2.trans (hb.mono (Nat.le_of_lt hlt))).alloc (by omega) _).grown hg (by simp; omega) (fun q hq => by have := hbk q hq; omega)⟩
  rw [hg.block w.heap.size (by simp; omega) (fun e => by have := hbk _ e.symm; omega), ((Below.refl w2.heap.size w2).alloc (Nat.le_refl _) o).block _ (by omega), hb.block _ hlt]
  exact h.1
theorem ring_set {w w3 : World} {sv v3 : Value} {l3 : List Value} {n : Nat} {t : TypeId} (h : w3.heap[w.heap.size]? = some (.cells #[sv] t (0, 0)) ∧ w3.ownsRow (w.heap.size + 1) 9 1 v3 n l3 ∧ Below w.heap.size w w3) :
    (w3.setCell ⟨w.heap.size, 0, none⟩ v3).heap[w.heap.size]? = some (.cells #[v3] t (0, 0)) ∧ (w3.setCell ⟨w.heap.size, 0, none⟩ v3).ownsRow (w.heap.size + 1) 9 1 v3 n l3 ∧ Below w.heap.size w (w3.setCell ⟨w.heap.size, 0, none⟩ v3) := by
  refine ⟨heap_setCell_same _ _ _ _ _ _ h.1, h.2.1.kept (Lib.grownBy_setCell w3 w.heap.size 0 v3) ?_, h.2.2.setCell (p := ⟨w.heap.size, 0, none⟩) (Nat.le_refl _) _⟩
  refine .inr (fun e => ?_)
  have := (h.2.1.lt _ e).1
  omega
set_option maxRecDepth 100000 in
set_option maxHeartbeats 1000000 in
theorem newRing_any (seed : ByteArray) (n : Nat) (w : World) (hn : n ≤ 16) (hs : seed.size ≤ 700) (hst : Steps w) :
    Calls Tryd.prog 11 #[.string seed, .int .i64 n] w fun e w' => ∃ v, e = .returned (.tuple #[v, .int .i64 0]) ∧ Mac.RingAt w' v (Mac.keysOf seed n) ∧ Below w.heap.size w w' := by
  obtain ⟨i0, hif, hz0, hz1, hz2⟩ := info_parts info9
  have hn2 : (n : Int) ≤ 16 := by omega
  have hpos := hst.pos
  have HS : Hid (Steps w) := hst
  clear hst
  go_enter Tryd.func11, Tryd.ntmps11
  go_wp2_with fail
  go_loopw [17] (fun t wr => ∃ (i : Nat) (sv : Value), i ≤ n ∧ t = .int .i64 i ∧ Hid (wr.heap[w.heap.size]? = some (.cells #[sv] 48 (0, 0)) ∧ wr.ownsRow (w.heap.size + 1) 9 1 sv i ((Mac.keysOf seed i).map Value.string) ∧ Below w.heap.size w wr)) (fun t _ => 16 - (intOf t).toNat)
  case atStart => exact ⟨0, .slice none 0 0, by omega, rfl, heap_alloc_new _ _, World.ownsRow_nil _ _ _ _, (Below.refl _ _).alloc (Nat.le_refl _) _⟩
  case round =>
    obtain ⟨i, sv, hi, rfl, HH⟩ := hrel
    by_cases hlt : i < n
    · have hlt2 : (i : Int) < n := by omega
      have hwlt : w.heap.size < wr.heap.size := ByteRow.lt_of_block HH.out.1
      have HSr : Hid (Steps wr) := Steps.by HH.out.2.2 hpos HS.out
      have hc : wr.cell? ⟨w.heap.size, 0, none⟩ = some sv := by rw [cell_of_row _ _ _ _ _ _ HH.out.1]; rfl
      have hf : wr.frozen? ⟨w.heap.size, 0, none⟩ = false := frozen_of_row _ _ _ _ _ HH.out.1
      have hc1 : ∀ o, (wr.alloc o).cell? ⟨w.heap.size, 0, none⟩ = some sv := fun o => (((Below.refl _ wr).alloc (Nat.le_refl _) o).cell (p := ⟨w.heap.size, 0, none⟩) hwlt).trans hc
      have hc12 : ∀ o o', ((wr.alloc o).alloc o').cell? ⟨w.heap.size, 0, none⟩ = some sv := fun o o' => ((((Below.refl _ wr).alloc (Nat.le_refl _) o).alloc (by simp) o').cell (p := ⟨w.heap.size, 0, none⟩) hwlt).trans hc
      have hwr := wrap_ofNat i
      have hcv := one_back wr (UInt8.ofNat i)
      rw [← hwr] at hcv
      clear hwr
      go_wp2_with fail
      go_region_law
        (first
          | (refine TwoRows.step_append1 (base := w.heap.size + 1) (e := 9) (v1 := sv) rfl (.tmp 24) (.tmp 32) 46 rfl i0 (.string ⟨#[]⟩) 16 under46s hif hz0 hz1 hz2 rfl i rfl ((TwoRows.own_below HH.out.2.1 hbw2).alloc _) w2.heap.size 1 (.string (Mac.keyOf seed i)) rfl (TwoRows.cell_new w2 _ _) rfl (by omega) (by unfold maxLen; omega) (by have := hbw2.size; simp; omega) ?_
             intro v3 w3 hown3 hg3
             obtain ⟨a3, c3, rfl⟩ := (StrRow.Reads.of_own (xs := Mac.keysOf seed (i + 1)) (by rw [Mac.keysOf_succ, List.map_append]; exact hown3)).form
             have HR3 : Hid (w3.heap[w.heap.size]? = some (.cells #[sv] 48 (0, 0)) ∧ w3.ownsRow (w.heap.size + 1) 9 1 (.slice a3 (Mac.keysOf seed (i + 1)).length c3) (i + 1) ((Mac.keysOf seed (i + 1)).map Value.string) ∧ Below w.heap.size w w3) := ring_grown HH.out hbw2 hwlt hg3 (by rw [show (Mac.keysOf seed (i + 1)).map Value.string = (Mac.keysOf seed i).map Value.string ++ [Value.string (Mac.keyOf seed i)] by rw [Mac.keysOf_succ, List.map_append]; rfl]; exact hown3)
             have hc3 : w3.cell? ⟨w.heap.size, 0, none⟩ = some sv := by rw [cell_of_row _ _ _ _ _ _ HR3.out.1]; rfl
             have hf3 : w3.frozen? ⟨w.heap.size, 0, none⟩ = false := frozen_of_row _ _ _ _ _ HR3.out.1)
          | (go_simp
             go_at_call 21
             refine (tagged_key _ seed i _ (reads_two wr _ _ _ _) hs (Steps.by ((((Below.refl _ wr).alloc (Nat.le_refl _) _).alloc (by simp) _).drew) HSr.out.pos HSr.out)).mono ?_
             rintro e w2 ⟨rfl, hb2⟩
             have hbw2 : Below wr.heap.size wr w2 := ((((Below.refl _ wr).alloc (Nat.le_refl _) _).alloc (by simp) _).drew).trans (hb2.mono (by simp; omega))
             have hc2 := (hbw2.cell (p := ⟨w.heap.size, 0, none⟩) hwlt).trans hc
             have hc4 : ∀ o, (w2.alloc o).cell? ⟨w.heap.size, 0, none⟩ = some sv := fun o => ((hbw2.alloc hbw2.size o).cell (p := ⟨w.heap.size, 0, none⟩) hwlt).trans hc
             have hf2 := (hbw2.frozen (p := ⟨w.heap.size, 0, none⟩) hwlt).trans hf))
      all_goals
        clear hg3 hb2 hcv hc1 hc12 hc2 hc4 hf2 hc3 hf3 hown3 hbw2
        go_wp2
        go_roundw
        case rel => exact ⟨i + 1, _, by omega, by go_num, ring_set HR3.out⟩
        case measure => simp [intOf]; omega
    · have hin : i = n := by omega
      subst hin
      go_wp2
      go_ret2
      refine ⟨_, rfl, ⟨w.heap.size, sv, rfl, by rw [cell_of_row _ _ _ _ _ _ HH.out.1]; rfl, StrRow.Reads.of_own HH.out.2.1⟩, HH.out.2.2⟩
set_option maxHeartbeats 400000 in
theorem newRing_bad (seed : ByteArray) (n : Int) (w : World) (hn : n < 0 ∨ 16 < n) :
    Calls Tryd.prog 11 #[.string seed, .int .i64 n] w fun e w' => e = .returned (.tuple #[.pointer none, .int .i64 1]) ∧ w' = w := by
  by_cases h : n < 0
  · go_enter Tryd.func11, Tryd.ntmps11
    go_wp2
    go_ret2
    exact ⟨rfl, rfl⟩
  · have h2 : 16 < n := by omega
    go_enter Tryd.func11, Tryd.ntmps11
    go_wp2
    go_ret2
    exact ⟨rfl, rfl⟩
end Go.Proofs.YtcfjlnceofdcdaaDoor
