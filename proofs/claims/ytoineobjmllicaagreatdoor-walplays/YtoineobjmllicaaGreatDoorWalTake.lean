/- Contracts: records as frames; the head and the records that bytes begin with. -/
import Derived.Test.YtoineobjmllicaaGreatDoorWalFile
import Derived.Test.YtoineobjmllicaaGreatDoorWalFrames
import Derived.Test.YtoineobjmllicaaGreatDoorWirFive
import Derived.Deep.AppendLies
import Derived.WalkKit
namespace Go.Wal
open Go.RowKit Go.Dk Go.Wire
/-- The slice value v holds these texts. -/
def Texts (w : World) (v : Value) (ls : List Bs) : Prop :=
  ∃ a c, v = .slice a ls.length c ∧ ls.length ≤ c ∧ ∀ j l, ls[j]? = some l → ∃ b off, a = some ⟨b, off, none⟩ ∧ w.cell? ⟨b, off + j, none⟩ = some (.string ⟨l.toArray⟩)
theorem cell_lt {w : World} {b k : Nat} {v : Value} (h : w.cell? ⟨b, k, none⟩ = some v) : b < w.heap.size := by
  unfold World.cell? at h
  rcases Nat.lt_or_ge b w.heap.size with h' | h'
  · exact h'
  · simp [Array.getElem?_eq_none h'] at h
theorem Texts.below {w w' : World} {v : Value} {ls : List Bs} (h : Texts w v ls) (hb : Below w.heap.size w w') : Texts w' v ls := by
  obtain ⟨a, c, h1, h2, h3⟩ := h
  refine ⟨a, c, h1, h2, fun j l hj => ?_⟩
  obtain ⟨b, off, hb1, hb2⟩ := h3 j l hj
  exact ⟨b, off, hb1, (hb.cell (p := ⟨b, off + j, none⟩) (cell_lt hb2)).trans hb2⟩
theorem Texts.of_own {w : World} {base : Nat} {v : Value} {ls : List Bs} (h : w.ownsRow base 9 1 v ls.length (ls.map fun l => Value.string ⟨l.toArray⟩)) : Texts w v ls := by
  rcases h.2 with ⟨h1, h2⟩ | ⟨g, cap, cur, h1, _, h3, h4, _, h6, h7⟩
  · have : ls = [] := List.length_eq_zero_iff.1 h2
    subst this
    exact ⟨none, 0, h1, Nat.le_refl _, fun j l hj => by simp at hj⟩
  · refine ⟨_, cap, h1, h4, fun j l hj => ⟨g, 0, rfl, ?_⟩⟩
    have hjl := (List.getElem?_eq_some_iff.1 hj).1
    rw [Nat.zero_add, cell_of_row _ _ _ _ _ _ h3, ← Array.getElem?_toList]
    have : (cur.toList.take (ls.length * 1))[j]? = cur.toList[j]? := List.getElem?_take_of_lt (by omega)
    rw [← this, h7, List.getElem?_map, hj]
    rfl
theorem own_form {w : World} {base e k n : Nat} {v : Value} {xs : List Value} (h : w.ownsRow base e k v n xs) : ∃ a c, v = .slice a n c := by
  rcases h.2 with ⟨h1, h2⟩ | ⟨g, cap, cur, h1, _⟩
  · exact ⟨none, 0, by rw [h2]; exact h1⟩
  · exact ⟨_, _, h1⟩
theorem own_below {w w' : World} {base e k n : Nat} {v : Value} {xs : List Value} (h : w.ownsRow base e k v n xs) (hb : Below w.heap.size w w') : w'.ownsRow base e k v n xs :=
  ownsRow_kept h fun g hg => hb.block g (by obtain ⟨cur, hc⟩ := ownsRow_tag h hg; exact block_lt hc)
theorem has_r {t : Bs} (h : Lib.hasPrefix t [114] = true) : ∃ r, t = 114 :: r := by
  cases t with
  | nil => cases h
  | cons c r =>
    unfold Lib.hasPrefix at h
    simp only [List.isPrefixOf, Bool.and_true, beq_iff_eq] at h
    exact ⟨r, by rw [h]⟩
theorem has_no {t : Bs} (h : Lib.hasPrefix t [114] = false) : ∀ r, t ≠ 114 :: r := fun r e => by
  rw [e] at h
  unfold Lib.hasPrefix at h
  simp [List.isPrefixOf] at h
theorem frs_take (ls : List Bs) (i : Nat) (l : Bs) (h : ls[i]? = some l) : frs (ls.take (i + 1)) = frs (ls.take i) ++ fr (114 :: l) := by
  rw [List.take_add_one, h, frs_append]
  show frs (ls.take i) ++ (fr (114 :: l) ++ []) = _
  rw [List.append_nil]
theorem frs_length {M : Nat} : ∀ (ls : List Bs), (∀ l ∈ ls, l.length ≤ M) → (frs ls).length ≤ ls.length * (M + 17)
  | [], _ => Nat.zero_le _
  | l :: ls, h => by
    show (fr (114 :: l) ++ frs ls).length ≤ _
    have h1 := frs_length ls fun x hx => h x (by simp [hx])
    have h2 := h l (by simp)
    rw [List.length_append, fr_length, List.length_cons, List.length_cons, Nat.add_mul]
    omega
theorem frame_fr (t : Bs) : (frameB ⟨t.toArray⟩) = ⟨(fr t).toArray⟩ := by
  apply ByteArray.ext
  unfold frameB fr textB numB
  simp only [ByteArray.data_append, ByteArray.size, List.append_toArray, List.size_toArray]
end Go.Wal
namespace Go.Proofs.YtoineobjmllicaaGreatDoor
open Go.RowKit Go.Dk Go.Wire Go.Wal
set_option maxHeartbeats 1000000 in
theorem frames_any (v : Value) (ls : List Bs) (w : World) (h : Texts w v ls) (hs : ∀ l ∈ ls, l.length ≤ 1000) (hn : ls.length ≤ 1000) :
    Calls Tryz.prog 42 #[v] w fun e w' => e = .returned (.string ⟨(frs ls).toArray⟩) ∧ Below w.heap.size w w' := by
  obtain ⟨a, c, rfl, hc, hcells⟩ := h
  have HC := hide hcells
  have HS := hide hs
  clear hs hcells
  go_enter Tryz.func42, Tryz.ntmps42
  go_wp2_with (go_at_call 74; refine (newWriter_any _).mono ?_; rintro e w1 ⟨rfl, h1, k1⟩; have H1 := hide (And.intro h1 k1); clear h1 k1)
  go_loopw [9] (fun vi wr => ∃ i : Nat, i ≤ ls.length ∧ vi = .int .i64 i ∧ Hid (Wr 144 w.heap.size w.heap.size (frs (ls.take i)) wr ∧ Below w.heap.size w wr)) (fun vi _ => ls.length - (intOf vi).toNat)
  case atStart => exact ⟨0, Nat.zero_le _, rfl, H1.out⟩
  case round =>
    obtain ⟨i, hi, rfl, HH⟩ := hrel
    by_cases hlt : i < ls.length
    · obtain ⟨l, hl⟩ : ∃ l, ls[i]? = some l := ⟨_, List.getElem?_eq_getElem hlt⟩
      obtain ⟨b, off, rfl, hcell⟩ := HC.out i l hl
      have hll := HS.out l (List.mem_of_getElem? hl)
      have q0 : wr.cell? ⟨b, off + i, none⟩ = some (.string ⟨l.toArray⟩) := (HH.out.2.cell (p := ⟨b, off + i, none⟩) (cell_lt hcell)).trans hcell
      have hlz : (⟨l.toArray⟩ : ByteArray).size ≤ 1000 := by rw [ba_size]; exact hll
      have HF : Hid (∀ w2, Calls Tryz.prog 41 #[.string (⟨#[114]⟩ ++ ⟨l.toArray⟩)] w2 fun e w' => e = .returned (.string ⟨(fr (114 :: l)).toArray⟩) ∧ Below w2.heap.size w2 w') := fun w2 => by
        have hx : (⟨#[114]⟩ : ByteArray) ++ ⟨l.toArray⟩ = ⟨(114 :: l).toArray⟩ := ba_append [114] l
        rw [hx, ← frame_fr]
        exact frame_any _ w2 (by rw [ba_size, List.length_cons]; omega)
      have HB : Hid (∀ w2, Below wr.heap.size wr w2 → Calls Tryz.prog 75 #[.pointer (some ⟨w.heap.size, 0, none⟩), .string ⟨(fr (114 :: l)).toArray⟩] w2 fun e w' => e = .returned (.tuple #[]) ∧ Wr 144 w.heap.size w.heap.size (frs (ls.take (i + 1))) w' ∧ Below w.heap.size w w') := fun w2 h2 => by
        have hlen : (frs (ls.take i)).length ≤ 1000 * 1017 := Nat.le_trans (frs_length (M := 1000) _ fun x hx => HS.out x (List.mem_of_mem_take hx)) (Nat.mul_le_mul (by rw [List.length_take]; omega) (Nat.le_refl _))
        have hb2 := HH.out.2.trans (h2.mono HH.out.2.size)
        refine (wbytes_any w.heap.size _ _ _ w2 (.inr ⟨_, rfl, HH.out.1.below h2⟩) (.inr (by rw [ba_size, fr_length, List.length_cons]; omega)) hb2.size).mono ?_
        rintro e w' ⟨he, h3, k3⟩
        refine ⟨he, ?_, hb2.trans k3⟩
        rcases h3 with h3 | ⟨b3, h3, h4⟩
        · cases h3
        · cases h3
          rw [frs_take ls i l hl]
          exact h4
      clear hcell hl
      go_wp2_with (first
        | (go_at_call 41; refine (HF.out _).mono ?_; rintro e w2 ⟨rfl, k2⟩; have K2 := hide k2; clear k2)
        | (go_at_call 75; refine (HB.out _ K2.out).mono ?_; rintro e w3 ⟨rfl, h3, k3⟩; have H3 := hide (And.intro h3 k3); clear h3 k3))
      exact ⟨⟨i + 1, by omega, by go_num, H3.out⟩, by simp [intOf]; omega⟩
    · have he : i = ls.length := by omega
      subst he
      have HALL : Hid (Calls Tryz.prog 76 #[.pointer (some ⟨w.heap.size, 0, none⟩)] wr fun e w' => e = .returned (.string ⟨(frs ls).toArray⟩) ∧ Below w.heap.size w w') := by
        have hw := HH.out.1
        rw [List.take_length] at hw
        exact (all_any w.heap.size _ _ wr HH.out.2.size hw).mono fun e w' ⟨he, _, k⟩ => ⟨he, HH.out.2.trans k⟩
      go_wp2_with (go_at_call 76; refine (HALL.out).mono ?_; rintro e w2 ⟨rfl, k2⟩)
      go_ret
      exact ⟨rfl, k2⟩
theorem unframe_l (s : Bs) (p : Nat) (w : World) (hs : s.length ≤ 1000000) (hp : p ≤ s.length) :
    (∃ t, unf1 (s.drop p) = some t ∧ t.length ≤ s.length ∧ Calls Tryz.prog 111 #[.string ⟨s.toArray⟩, .int .i64 p] w fun e w' => e = .returned (.tuple #[.string ⟨t.toArray⟩, .int .i64 ((p + (16 + t.length) : Nat) : Int), .int .i64 0]) ∧ Below w.heap.size w w') ∨
    (unf1 (s.drop p) = none ∧ ∃ x, x ≠ 0 ∧ Calls Tryz.prog 111 #[.string ⟨s.toArray⟩, .int .i64 p] w fun e w' => e = .returned (.tuple #[.string ⟨#[]⟩, .int .i64 0, .int .i64 x]) ∧ Below w.heap.size w w') := by
  have hu := unframe_any ⟨s.toArray⟩ p w (by rw [ba_size]; exact hs)
  rcases unframe_is ⟨s.toArray⟩ p (by rw [ba_size]; exact hp) with ⟨t, h1, h2⟩ | ⟨h1, x, h2, h3⟩
  · rw [h2] at hu
    have h1' : unf1 (s.drop p) = some t := by simpa using h1
    refine .inl ⟨t, h1', ?_, hu⟩
    obtain ⟨_, r, hr⟩ := unf1_some h1'
    have := congrArg List.length hr
    rw [List.length_drop, List.length_append, fr_length] at this
    omega
  · rw [h3] at hu
    exact .inr ⟨by simpa using h1, x, h2, hu⟩
theorem takeHead_any (s : Bs) (w : World) (hs : s.length ≤ 1000000) :
    Calls Tryz.prog 92 #[.string ⟨s.toArray⟩] w fun e w' => e = .returned (match head s with | some true => .tuple #[.string ⟨#[66]⟩, .int .i64 17] | some false => .tuple #[.string ⟨#[71]⟩, .int .i64 17] | none => .tuple #[.string ⟨#[]⟩, .int .i64 0]) ∧ Below w.heap.size w w' := by
  rcases unframe_l s 0 w hs (Nat.zero_le _) with ⟨t, h1, _, h2⟩ | ⟨h1, x, hx, h2⟩
  · rw [List.drop_zero] at h1
    unfold head
    rw [h1]
    have HU := hide h2
    clear h2
    by_cases hB : t = [66]
    · subst hB
      go_enter Tryz.func92, Tryz.ntmps92
      go_wp2_with (go_at_call 111; refine (HU.out).mono ?_; rintro e w1 ⟨rfl, k1⟩)
      go_ret2
      exact ⟨rfl, k1⟩
    · by_cases hG : t = [71]
      · subst hG
        go_enter Tryz.func92, Tryz.ntmps92
        go_wp2_with (go_at_call 111; refine (HU.out).mono ?_; rintro e w1 ⟨rfl, k1⟩)
        go_ret2
        exact ⟨rfl, k1⟩
      · have hb : (t == [66]) = false := by simpa using hB
        have hg : (t == [71]) = false := by simpa using hG
        simp only [if_neg hB, if_neg hG]
        go_enter Tryz.func92, Tryz.ntmps92
        go_wp2_with (go_at_call 111; refine (HU.out).mono ?_; rintro e w1 ⟨rfl, k1⟩)
        go_ret2
        exact ⟨rfl, k1⟩
  · rw [List.drop_zero] at h1
    unfold head
    rw [h1]
    have HU := hide h2
    have hxb : (x == 0) = false := by simpa using hx
    clear h2
    go_enter Tryz.func92, Tryz.ntmps92
    go_wp2_with (go_at_call 111; refine (HU.out).mono ?_; rintro e w1 ⟨rfl, k1⟩)
    go_ret2
    exact ⟨rfl, k1⟩
theorem under_strs : Tryz.prog.underlying 30 = some (.slice 9) := by kernel_rfl
theorem info_str : (Tryz.prog.info? 9).map (fun i => (i.zero, i.size, i.bytes)) = some (some (.string ⟨#[]⟩), 1, 16) := by kernel_rfl
abbrev txs (ls : List Bs) : List Value := ls.map fun l => Value.string ⟨l.toArray⟩
set_option maxHeartbeats 2000000 in
theorem takeRecords_any (s : Bs) (p : Nat) (w : World) (hs : s.length ≤ 1000000) (hp : p ≤ s.length) :
    Calls Tryz.prog 94 #[.string ⟨s.toArray⟩, .int .i64 p] w fun e w' => ∃ v, e = .returned (.tuple #[v, .int .i64 ((p + (frs (recs (s.drop p))).length : Nat) : Int)]) ∧ w'.ownsRow w.heap.size 9 1 v (recs (s.drop p)).length (txs (recs (s.drop p))) ∧ Below w.heap.size w w' := by
  obtain ⟨i9, hi9, hz0, hz1, hz2⟩ := info_parts info_str
  have HU : Hid (∀ (q : Nat) (w1 : World), q ≤ s.length → (∃ t, unf1 (s.drop q) = some t ∧ t.length ≤ s.length ∧ Calls Tryz.prog 111 #[.string ⟨s.toArray⟩, .int .i64 q] w1 fun e w' => e = .returned (.tuple #[.string ⟨t.toArray⟩, .int .i64 ((q + (16 + t.length) : Nat) : Int), .int .i64 0]) ∧ Below w1.heap.size w1 w') ∨
    (unf1 (s.drop q) = none ∧ ∃ x, x ≠ 0 ∧ Calls Tryz.prog 111 #[.string ⟨s.toArray⟩, .int .i64 q] w1 fun e w' => e = .returned (.tuple #[.string ⟨#[]⟩, .int .i64 0, .int .i64 x]) ∧ Below w1.heap.size w1 w')) := fun q w1 hq => unframe_l s q w1 hs hq
  have HCUT : Hid (∀ (t : Bs) (w1 : World), Calls Tryz.prog 112 #[.string ⟨t.toArray⟩, .string ⟨#[114]⟩] w1 fun e w' => e = .returned (.tuple #[.string ⟨(Lib.trimPrefix t [114]).toArray⟩, .bool (Lib.hasPrefix t [114])]) ∧ w' = w1) := fun t w1 => Any.strings_CutPrefix cutL ⟨t.toArray⟩ ⟨#[114]⟩ w1
  generalize hR : recs (s.drop p) = R
  have hRl : 17 * R.length ≤ s.length := by
    obtain ⟨rest, h1, _⟩ := recs_spec (s.drop p)
    rw [hR] at h1
    have := congrArg List.length h1
    rw [List.length_drop, List.length_append] at this
    have h17 : ∀ l : List Bs, 17 * l.length ≤ (frs l).length := fun l => by
      induction l with
      | nil => exact Nat.le_refl _
      | cons r l ih => show _ ≤ (fr (114 :: r) ++ frs l).length; rw [List.length_append, fr_length, List.length_cons, List.length_cons]; omega
    have := h17 R
    omega
  have HR : Hid (recs (s.drop p) = R) := hR
  clear hR
  go_enter Tryz.func94, Tryz.ntmps94
  go_wp2_with fail
  go_loopw [1, 6] (fun va vr wr => ∃ (q : Nat) (done : List Bs), q ≤ s.length ∧ va = .int .i64 q ∧ done.length ≤ R.length ∧ Hid (wr.ownsRow w.heap.size 9 1 vr done.length (txs done) ∧ Below w.heap.size w wr ∧ q = p + (frs done).length ∧ done ++ recs (s.drop q) = R)) (fun va _ _ => s.length - (intOf va).toNat)
  case atStart => exact ⟨p, [], hp, rfl, Nat.zero_le _, World.ownsRow_nil _ _ _ _, Below.refl _ _, rfl, HR.out⟩
  case round =>
    obtain ⟨q, done, hq, rfl, hdl, HH⟩ := hrel
    rcases HU.out q wr hq with ⟨t, h1, htl, h2⟩ | ⟨h1, x, hx, h2⟩
    · have H1 := hide h1
      have H2 := hide h2
      clear h1 h2
      obtain ⟨ra, rc, rfl⟩ := own_form HH.out.1
      cases hp1 : Lib.hasPrefix t [114] with
      | true =>
        obtain ⟨r, rfl⟩ := has_r hp1
        have HC1 : Hid (∀ w1 : World, Calls Tryz.prog 112 #[.string ⟨(114 :: r).toArray⟩, .string ⟨#[114]⟩] w1 fun e w' => e = .returned (.tuple #[.string ⟨r.toArray⟩, .bool true]) ∧ w' = w1) := fun w1 => by
          have := HCUT.out (114 :: r) w1
          rw [hp1, show Lib.trimPrefix (114 :: r) [114] = r by unfold Lib.trimPrefix; rw [hp1]; rfl] at this
          exact this
        have hrl : r.length + 1 ≤ s.length := by rw [List.length_cons] at htl; exact htl
        have HNX : Hid (q + (16 + (r.length + 1)) ≤ s.length ∧ q + (16 + (r.length + 1)) = p + (frs (done ++ [r])).length ∧ (done ++ [r]) ++ recs (s.drop (q + (16 + (r.length + 1)))) = R) := by
          obtain ⟨_, rest, hr⟩ := unf1_some H1.out
          have hl := congrArg List.length hr
          rw [List.length_drop, List.length_append, fr_length, List.length_cons] at hl
          refine ⟨by omega, ?_, ?_⟩
          · rw [frs_append, List.length_append, show frs [r] = fr (114 :: r) from List.append_nil _, fr_length, List.length_cons]
            have := HH.out.2.2.1
            omega
          · have h4 := HH.out.2.2.2
            rw [recs_some H1.out, List.drop_drop] at h4
            rw [← h4, List.append_assoc, show q + (16 + (r.length + 1)) = q + (17 + r.length) by omega]
            rfl
        have hdr : done.length + 1 ≤ R.length := by
          have := congrArg List.length HNX.out.2.2
          rw [List.length_append, List.length_append] at this
          simp only [List.length_cons, List.length_nil] at this
          omega
        clear H1 hp1 HCUT HU
        go_wp2_with (first
          | (go_at_call 111; refine (H2.out).mono ?_; rintro e w1 ⟨rfl, k1⟩; have K1 := hide k1; clear k1)
          | (go_at_call 112; refine (HC1.out _).mono ?_; rintro e w2 ⟨rfl, rfl⟩)
          | (at_builtin; refine wpList_append_lies _ rfl _ _ 30 rfl w.heap.size 9 i9 (.string ⟨#[]⟩) 1 16 under_strs hi9 hz0 hz1 hz2 rfl (by decide) _ _ _ rfl ((own_below HH.out.1 K1.out).alloc _) ⟨w2.heap.size, 0, none⟩ 1 1 [.string ⟨r.toArray⟩] rfl rfl ?a1 ?a2 (by decide) ?a3 ?a4 ?a5 (w2.heap.size + 1) (by simp) ?_))
        case a1 => exact cell_one_new _ _ _
        case a2 => intro u hu; simp at hu; subst hu; rfl
        case a3 => unfold maxLen; omega
        case a4 => omega
        case a5 => have h1 := HH.out.2.1.size; have h2 := K1.out.size; simp; omega
        intro g cap w3 hown hgrow _ _
        have H3 : Hid (w3.ownsRow w.heap.size 9 1 (.slice (some ⟨g, 0, none⟩) (done.length + 1) cap) (done ++ [r]).length (txs (done ++ [r])) ∧ Below w.heap.size w w3) := by
          have hb1 : Below w.heap.size w w2 := HH.out.2.1.trans (K1.out.mono HH.out.2.1.size)
          have hb2 := hb1.alloc hb1.size (.cells #[.string ⟨r.toArray⟩] 9)
          refine ⟨?_, hb2.grown hgrow hb2.size fun k e => ownsRow_ge HH.out.1 e⟩
          rw [List.length_append]
          unfold txs
          rw [List.map_append]
          exact hown
        clear hown hgrow
        go_wp2_with fail
        exact ⟨⟨q + (16 + (r.length + 1)), done ++ [r], HNX.out.1, by first | rfl | go_num, by rw [List.length_append]; exact hdr, H3.out.1, H3.out.2, HNX.out.2.1, HNX.out.2.2⟩, by have := HNX.out.1; simp [intOf]; omega⟩
      | false =>
        have HC1 : Hid (∀ w1 : World, Calls Tryz.prog 112 #[.string ⟨t.toArray⟩, .string ⟨#[114]⟩] w1 fun e w' => (∃ c, e = .returned (.tuple #[.string c, .bool false])) ∧ w' = w1) := fun w1 => by
          have := HCUT.out t w1
          rw [hp1] at this
          exact this.mono fun e w' ⟨he, hw⟩ => ⟨⟨_, he⟩, hw⟩
        have HE : Hid (done = R) := by
          have h4 := HH.out.2.2.2
          rw [recs_other H1.out (has_no hp1), List.append_nil] at h4
          exact h4
        clear H1 hp1 HCUT HU
        go_wp2_with (first
          | (go_at_call 111; refine (H2.out).mono ?_; rintro e w1 ⟨rfl, k1⟩; have K1 := hide k1; clear k1)
          | (go_at_call 112; refine (HC1.out _).mono ?_; rintro e w2 ⟨⟨c, rfl⟩, rfl⟩))
        go_ret2
        have h1 := HE.out
        subst h1
        exact ⟨.slice ra done.length rc, by rw [← HH.out.2.2.1]; rfl, own_below HH.out.1 K1.out, HH.out.2.1.trans (K1.out.mono HH.out.2.1.size)⟩
    · have H2 := hide h2
      have hxb : (x == 0) = false := by simpa using hx
      have HC1 : Hid (∀ w1 : World, Calls Tryz.prog 112 #[.string ⟨#[]⟩, .string ⟨#[114]⟩] w1 fun e w' => (∃ c, e = .returned (.tuple #[.string c, .bool false])) ∧ w' = w1) := fun w1 => (HCUT.out [] w1).mono fun e w' ⟨he, hw⟩ => ⟨⟨_, he⟩, hw⟩
      have HE : Hid (done = R) := by
        have h4 := HH.out.2.2.2
        rw [recs_none h1, List.append_nil] at h4
        exact h4
      obtain ⟨ra, rc, rfl⟩ := own_form HH.out.1
      clear h1 h2 HCUT HU
      go_wp2_with (first
        | (go_at_call 111; refine (H2.out).mono ?_; rintro e w1 ⟨rfl, k1⟩; have K1 := hide k1; clear k1)
        | (go_at_call 112; refine (HC1.out _).mono ?_; rintro e w2 ⟨⟨c, rfl⟩, rfl⟩))
      go_ret2
      have h1 := HE.out
      subst h1
      exact ⟨.slice ra done.length rc, by rw [← HH.out.2.2.1]; rfl, own_below HH.out.1 K1.out, HH.out.2.1.trans (K1.out.mono HH.out.2.1.size)⟩
end Go.Proofs.YtoineobjmllicaaGreatDoor
