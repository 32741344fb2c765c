/- The contracts of a key by the document, and of the program being awake: one tag that is right, two that are not. -/
import Derived.Test.YtcfjlnceofdcdaaDoorMacNewRing
import Derived.Test.YtcfjlnceofdcdaaDoorMacAwakeMath
namespace Go.Mac
def seedS : ByteArray := ⟨#[115, 101, 101, 100]⟩
def textS : ByteArray := ⟨#[116, 101, 120, 116]⟩
def testS : ByteArray := ⟨#[116, 101, 115, 116]⟩
theorem tag_seed1 : Sha.tag (keyOf seedS 1).data.toList textS.data.toList = Sha.tag1 := by
  show Sha.tag (Sha.ringKey Sha.seedB 1) Sha.textB = _
  rw [Sha.key1_is, Sha.tag1_is]
theorem tag_test1 : ¬ Sha.tag1 = Sha.tag (keyOf seedS 1).data.toList testS.data.toList := by
  show ¬ Sha.tag1 = Sha.tag (Sha.ringKey Sha.seedB 1) Sha.testB
  rw [Sha.key1_is]
  exact fun h => Sha.test1_not h.symm
theorem tag_seed0 : ¬ Sha.tag1 = Sha.tag (keyOf seedS 0).data.toList textS.data.toList := by
  show ¬ Sha.tag1 = Sha.tag (Sha.ringKey Sha.seedB 0) Sha.textB
  rw [Sha.key0_is]
  exact fun h => Sha.text0_not h.symm
end Go.Mac
namespace Go.Proofs.YtcfjlnceofdcdaaDoor
open Go.RowKit
open Go.Sort
theorem one_back' (w : World) (c : UInt8) : (convert 40 9 (.slice (some ⟨w.heap.size, 0, none⟩) 1 1)).run Tryd.prog (w.alloc (.cells #[.int .u8 c.toNat] 5)) = .ok (.string ⟨#[c]⟩) (w.alloc (.cells #[.int .u8 c.toNat] 5)) :=
  run_convert_bytes_back (P := Tryd.prog) _ 40 9 5 ⟨w.heap.size, 0, none⟩ 1 [c] under46 under5 under9 (fun j hj => by
    match j, hj with
    | 0, _ => exact TwoRows.cell_new w _ _)
theorem reads_two' (w : World) (A : Obj) (a b : ByteArray) (e : TypeId) : StrRow.Reads ((w.alloc A).alloc (.cells #[.string a, .string b] e)) (.slice (some ⟨w.heap.size + 1, 0, none⟩) 2 2) [a, b] := reads_two w A a b e
theorem rtagged_key (v : Value) (seed : ByteArray) (i : Nat) (w : World) (hr : StrRow.Reads w v [seed, ⟨#[UInt8.ofNat i]⟩]) (hs : seed.size ≤ 700) :
    Calls Tryd.prog 23 #[.int .u8 82, v] w fun e w' => e = .returned (.string (Mac.keyOf seed i)) ∧ Below w.heap.size w w' :=
  rtagged_any 82 v [seed, ⟨#[UInt8.ofNat i]⟩] w hr (by simp) (by
    intro s h
    simp at h
    rcases h with rfl | rfl
    · exact hs
    · show (1 : Nat) ≤ 700; decide)
set_option maxHeartbeats 400000 in
theorem lkey_any (seed : ByteArray) (i : Nat) (w : World) (hs : seed.size ≤ 700) :
    Calls Tryd.prog 16 #[.string seed, .int .i64 i] w fun e w' => e = .returned (.string (Mac.keyOf seed i)) ∧ Below w.heap.size w w' := by
  have hwr : (i : Int) % 256 = ((UInt8.ofNat i).toNat : Int) := by simp
  have hcv := one_back' w (UInt8.ofNat i)
  rw [← hwr] at hcv
  clear hwr
  go_enter Tryd.func16, Tryd.ntmps16
  go_wp2_with fail
  refine (rtagged_key _ seed i _ (reads_two' w _ _ _ _) hs).mono ?_
  rintro e w1 ⟨rfl, hb⟩
  clear hcv
  go_wp2
  go_ret
  exact ⟨rfl, (((Below.refl _ w).alloc (Nat.le_refl _) _).alloc (by simp) _).trans (hb.mono (by simp; omega))⟩
set_option maxRecDepth 100000 in
set_option maxHeartbeats 1000000 in
theorem awake_any (w : World) (hst : Steps w) :
    Calls Tryd.prog 7 #[] w fun e w' => e = .returned (.bool true) ∧ Below w.heap.size w w' := by
  have hpos := hst.pos
  have HS : Hid (Steps w) := hst
  clear hst
  go_enter Tryd.func7, Tryd.ntmps7
  go_wp2_with fail
  refine (newRing_any Mac.seedS 2 w (by decide) (by decide) HS.out).mono ?_
  rintro e w1 ⟨v, rfl, hr1, hb1⟩
  have H1 : Hid (Mac.RingAt w1 v (Mac.keysOf Mac.seedS 2) ∧ Below w.heap.size w w1 ∧ Steps w1) := ⟨hr1, hb1, Steps.by hb1 hpos HS.out⟩
  clear hr1 hb1
  go_wp2_with fail
  refine (tag_in v _ 1 (Mac.keyOf Mac.seedS 1) Mac.textS w1 H1.out.1 rfl (by rw [Mac.keyOf_size]; decide) (by decide) H1.out.2.2).mono ?_
  rintro e w2 ⟨rfl, hb2⟩
  rw [Mac.tag_seed1]
  obtain ⟨t, ht⟩ : ∃ t : ByteArray, t = ⟨Sha.tag1.toArray⟩ := ⟨_, rfl⟩
  rw [← ht]
  have hts : t.size = 32 := by rw [ht]; rfl
  have H2 : Hid (Mac.RingAt w2 v (Mac.keysOf Mac.seedS 2) ∧ Below w.heap.size w w2 ∧ Steps w2 ∧ t.data.toList = Sha.tag1) :=
    ⟨H1.out.1.below hb2 (Nat.le_refl _), H1.out.2.1.trans (hb2.mono H1.out.2.1.size), Steps.by hb2 H1.out.2.2.pos H1.out.2.2, by rw [ht]⟩
  clear H1 hb2 ht
  go_wp2_with fail
  refine (check_in v _ 1 (Mac.keyOf Mac.seedS 1) Mac.textS t w2 H2.out.1 rfl (by rw [Mac.keyOf_size]; decide) (by decide) H2.out.2.2.1).mono ?_
  rintro e w3 ⟨rfl, hb3⟩
  rw [H2.out.2.2.2, Mac.tag_seed1, decide_eq_true rfl]
  have H3 : Hid (Mac.RingAt w3 v (Mac.keysOf Mac.seedS 2) ∧ Below w.heap.size w w3 ∧ Steps w3 ∧ t.data.toList = Sha.tag1) :=
    ⟨H2.out.1.below hb3 (Nat.le_refl _), H2.out.2.1.trans (hb3.mono H2.out.2.1.size), Steps.by hb3 H2.out.2.2.1.pos H2.out.2.2.1, H2.out.2.2.2⟩
  clear H2 hb3
  go_wp2_with fail
  refine (check_in v _ 1 (Mac.keyOf Mac.seedS 1) Mac.testS t w3 H3.out.1 rfl (by rw [Mac.keyOf_size]; decide) (by decide) H3.out.2.2.1).mono ?_
  rintro e w4 ⟨rfl, hb4⟩
  rw [H3.out.2.2.2, decide_eq_false Mac.tag_test1]
  have H4 : Hid (Mac.RingAt w4 v (Mac.keysOf Mac.seedS 2) ∧ Below w.heap.size w w4 ∧ Steps w4 ∧ t.data.toList = Sha.tag1) :=
    ⟨H3.out.1.below hb4 (Nat.le_refl _), H3.out.2.1.trans (hb4.mono H3.out.2.1.size), Steps.by hb4 H3.out.2.2.1.pos H3.out.2.2.1, H3.out.2.2.2⟩
  clear H3 hb4
  go_wp2_with fail
  refine (check_in v _ 0 (Mac.keyOf Mac.seedS 0) Mac.textS t w4 H4.out.1 rfl (by rw [Mac.keyOf_size]; decide) (by decide) H4.out.2.2.1).mono ?_
  rintro e w5 ⟨rfl, hb5⟩
  rw [H4.out.2.2.2, decide_eq_false Mac.tag_seed0]
  go_wp2
  go_ret
  exact ⟨rfl, H4.out.2.1.trans (hb5.mono H4.out.2.1.size)⟩
end Go.Proofs.YtcfjlnceofdcdaaDoor
