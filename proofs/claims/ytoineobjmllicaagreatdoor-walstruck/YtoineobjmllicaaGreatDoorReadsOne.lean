/- Several texts in one: WalReadOps, WalReadsWalk. -/
import Derived.Test.YtoineobjmllicaaGreatDoorSweptOne
import Derived.Test.YtoineobjmllicaaGreatDoorWlFive
import Derived.Test.YtoineobjmllicaaGreatDoorFullOne
import Derived.Test.YtoineobjmllicaaGreatDoorUnframeTwo
import Derived.Deep.CutBlock
/- The calls of WalReads: Write, Sync, Open of what was laid by hand, the document's frames. -/
namespace Go.Proofs.YtoineobjmllicaaGreatDoor
open Go.RowKit Go.Dk Go.Wal Go.Wire
/-- The disk of a law. -/
structure Dw (w : World) (d K : Nat) (a : A) (W : World) : Prop where
  disk : ∃ S : WD, S.a = a ∧ DiskAt Tryz.prog (fun _ => True) w.heap.size K d W S
  below : Below w.heap.size w W
theorem Dw.under {w W W' : World} {d K : Nat} {a : A} (h : Dw w d K a W) (k : Below W.heap.size W W') : Dw w d K a W' := by
  obtain ⟨S, h1, h2⟩ := h.disk
  exact ⟨⟨S, h1, h2.below k⟩, h.below.trans (k.mono h.below.size)⟩
theorem handWrite (w : World) (d K : Nat) (a : A) (W : World) (h : Dw w d K a W) (name s : Bs) (hK : K + 1 ≤ 5000) (hn : name.length ≤ 240) (hs : s.length ≤ 2000) :
    Calls Tryz.prog 31 #[.pointer (some ⟨d, 0, none⟩), .string ⟨name.toArray⟩, .string ⟨s.toArray⟩] W fun e W' => e = .returned (.int .i64 (a.doPut name ⟨s, true⟩).2) ∧ Dw w d (K + 1) (a.doPut name ⟨s, true⟩).1 W' ∧ ∀ rv mv m, Mr w rv mv m W → Mr w rv mv m W' := by
  obtain ⟨S, hS, hD⟩ := h.disk
  have := write_op (fun _ => trivial) w.heap.size K d S ⟨name.toArray⟩ ⟨s.toArray⟩ W hD h.below.size hK (by rw [ba_size]; unfold maxLen; omega) (by rw [ba_size]; exact hs)
  rw [hS] at this
  refine this.mono ?_
  rintro e W' ⟨he, T, hT, hD', hk⟩
  exact ⟨he, ⟨⟨T, hT, hD'⟩, h.below.trans (hk.below h.below.size)⟩, fun rv mv m hm => hm.dsk hk⟩
theorem handSync (w : World) (d K : Nat) (a : A) (W : World) (h : Dw w d K a W) :
    Calls Tryz.prog 33 #[.pointer (some ⟨d, 0, none⟩)] W fun e W' => e = .returned (.int .i64 a.doSync.2) ∧ Dw w d K a.doSync.1 W' ∧ ∀ rv mv m, Mr w rv mv m W → Mr w rv mv m W' := by
  obtain ⟨S, hS, hD⟩ := h.disk
  have := sync_op w.heap.size K d S W hD
  rw [hS] at this
  refine this.mono ?_
  rintro e W' ⟨he, T, hT, hD', hk⟩
  exact ⟨he, ⟨⟨T, hT, hD'⟩, h.below.trans (hk.below h.below.size)⟩, fun rv mv m hm => hm.dsk hk⟩
theorem handOpen (w : World) (hv : Vars w) (d K most : Nat) (a : A) (W : World) (h : Dw w d K a W) (hm : 1 ≤ most) (hd : a.down = false) (hs : Sm a.files) (hf : Few a.files) (hr : (gatherOf a.files most).recs.length ≤ 1000000) (hK : K + a.files.length ≤ 4980) (a' : A) (l : Lg) (t : Nat) (ho : openOf a most = (a', some l, t, 0)) (hl : gatherOf a.files most = l) :
    Calls Tryz.prog 10 #[.pointer (some ⟨d, 0, none⟩), .int .i64 most] W fun e W' => ∃ b rv, e = .returned (.tuple #[.pointer (some ⟨b, 0, none⟩), .int .i64 (t : Int), .int .i64 0]) ∧ Pw Tryz.prog TLog w d (K + a.files.length + 1) b a' l rv W' ∧ ∀ rv0 mv m, Mr w rv0 mv m W → Mr w rv mv m W' := by
  obtain ⟨S, hS, hD⟩ := h.disk
  have h5 : 5 ≤ w.heap.size := hv.size
  have hb := h.below
  have := walOpen_any (M := fun _ => True) (fun _ => trivial) w.heap.size K d S most W hD (Vars.below hv hb) hb.size h5 (by rw [hS]; exact hK) hm (by rw [hS]; exact hd) (by rw [hS]; exact hs) (by rw [hS]; exact hf) (by rw [hS]; exact hr)
  rw [hS, ho, hl] at this
  refine this.mono ?_
  rintro e W' ⟨⟨_, h2, _⟩ | ⟨b, rv, he, hL, _, _⟩, hT, hk⟩
  · cases h2
  · refine ⟨b, rv, he, ⟨hT, hL.mono hb.size, hb.trans (hk.below hb.size)⟩, fun rv0 mv m hm' => ⟨(hm'.dsk hk).own, fun g hg e => ?_⟩⟩
    have h1 := ownsRow_ge hL.recs e
    obtain ⟨cur, hc⟩ := ownsRow_tag hm'.own hg
    have := block_lt hc
    omega
/-- How many segments, of a log. -/
theorem handSegs (w : World) (d K b : Nat) (a : A) (l : Lg) (rv : Value) (W : World) (h : Pw Tryz.prog TLog w d K b a l rv W) (n : Nat) (hn : (l.last = 0 ∧ n = 0) ∨ (1 ≤ l.first ∧ l.first ≤ l.last ∧ l.last ≤ 100000 ∧ n = l.last + 1 - l.first)) :
    Calls Tryz.prog 23 #[.pointer (some ⟨b, 0, none⟩)] W fun e W' => (∃ va vc, e = .returned (.slice va n vc)) ∧ Below W.heap.size W W' := by
  rcases hn with ⟨h0, rfl⟩ | ⟨h1, h2, h3, rfl⟩
  · refine (segments0_any w.heap.size b d l rv W h.log h0).mono ?_
    rintro e W' ⟨he, rfl⟩
    exact ⟨⟨_, _, he⟩, Below.refl _ _⟩
  · refine (segments_any w.heap.size b d l rv W h.log h1 h2 h3).mono ?_
    rintro e W' ⟨v, he, ⟨va, vc, hv, _⟩, hb⟩
    rw [List.length_range', show l.last - l.first + 1 = l.last + 1 - l.first by omega] at hv
    exact ⟨⟨va, vc, by rw [he, hv]⟩, hb⟩
theorem handFrame (t : Bs) (W : World) (ht : t.length ≤ 1000000) : Calls Tryz.prog 14 #[.string ⟨t.toArray⟩] W fun e W' => e = .returned (.string ⟨(fr t).toArray⟩) ∧ Below W.heap.size W W' := by
  have := rframe_any ⟨t.toArray⟩ W (by rw [ba_size]; exact ht)
  rw [frame_fr] at this
  exact this
theorem handUnframe (s : Bs) (W : World) (hs : s.length ≤ 1000000) : Calls Tryz.prog 30 #[.string ⟨s.toArray⟩, .int .i64 0] W fun e W' => (∃ (x : ByteArray) (p r : Int), e = .returned (.tuple #[.string x, .int .i64 p, .int .i64 r]) ∧ (r ≠ 0 → unf1 s = none)) ∧ Below W.heap.size W W' := by
  have := runframe_any ⟨s.toArray⟩ 0 W (by rw [ba_size]; exact hs)
  refine this.mono ?_
  rintro e W' ⟨he, hb⟩
  refine ⟨⟨_, _, _, he, fun h0 => ?_⟩, hb⟩
  rcases unframe_is ⟨s.toArray⟩ 0 (Nat.zero_le _) with ⟨t, _, h2⟩ | ⟨h1, _⟩
  · exfalso
    apply h0
    have h2' : unframe ⟨s.toArray⟩ 0 = _ := h2
    rw [h2']
  · simpa using h1
theorem handItoa (n : Nat) (W : World) (hv : Vars W) (hn : n < 9223372036854775808) : Calls Tryz.prog 32 #[.int .i64 n] W fun e W' => e = .returned (.string ⟨(Lib.decDigits n).toArray⟩) ∧ Below W.heap.size W W' := by
  have := Any.strconv_Itoa itoaL (n : Int) (by omega) (by omega) W hv.tab
  rw [itoa_nat] at this
  refine this.mono ?_
  rintro e w' ⟨he, k, os, rfl⟩
  exact ⟨he, grow_below k os⟩
end Go.Proofs.YtoineobjmllicaaGreatDoor
/- The walk of WalReads. -/
namespace Go.Wal
open Go.RowKit Go.Dk
/-- A segment that is to be laid by hand. -/
structure Sy where
  head : Int
  ls : List Bs
  rest : Bs
  skip : Bool
def SegsAt (w : World) (v : Value) (L : List Sy) : Prop :=
  ∃ a c, v = .slice a L.length c ∧ L.length ≤ c ∧ ∀ j y, L[j]? = some y → ∃ b off vj, a = some ⟨b, off, none⟩ ∧ w.cell? ⟨b, off + j * 4, none⟩ = some (.int .i64 y.head) ∧ w.cell? ⟨b, off + j * 4 + 1, none⟩ = some vj ∧ w.cell? ⟨b, off + j * 4 + 2, none⟩ = some (.string ⟨y.rest.toArray⟩) ∧ w.cell? ⟨b, off + j * 4 + 3, none⟩ = some (.bool y.skip) ∧ Texts w vj y.ls
theorem hk_length (k : Nat) : (hk k).length = 17 := by
  match k with
  | 0 => exact hd_length _
  | 1 => exact hd_length _
  | k + 2 => show (fr [120]).length = 17; rw [fr_length]; rfl
theorem frs_snoc (x : List Bs) (j : Nat) (t : Bs) (h : x[j]? = some t) : frs (x.take (j + 1)) = frs (x.take j) ++ fr (114 :: t) := by
  rw [List.take_add_one, h]
  show frs (x.take j ++ [t]) = _
  rw [frs_append]
  show _ ++ (fr (114 :: t) ++ []) = _
  rw [List.append_nil]
end Go.Wal
namespace Go.Proofs.YtoineobjmllicaaGreatDoor
open Go.RowKit Go.Dk Go.Wal
/-- What WalReads keeps between two rounds. -/
structure Rl (w : World) (K number : Nat) (m : List Bs) (mv : Value) (count : Bool) (files : Nat) (broken : Bool) (W : World) : Prop where
  all : ∃ (a : A) (R : Nat → Option Bs), Dw w w.heap.size K a W ∧ Laid a R number (fun _ => False) ∧ Hand R number m count files broken ∧ Mr w (.slice none 0 0) mv m W
/-- The disk stands when a row of texts of one's own grows. -/
theorem Dw.grown {w W W' : World} {d K : Nat} {a : A} (h : Dw w d K a W) {v : Value} {n : Nat} {xs : List Value} (ho : W.ownsRow w.heap.size 9 1 v n xs) (hg : W.grownBy W' v.ownBlock) : Dw w d K a W' := by
  obtain ⟨S, h1, h2⟩ := h.disk
  refine ⟨⟨S, h1, h2.other (Tch.of_grown (X := fun b => v.ownBlock = some b) hg fun _ e => e) fun b hb => ?_⟩, h.below.grown hg h.below.size fun k e => ownsRow_ge ho e⟩
  rintro ⟨_, o, hO, hd⟩
  obtain ⟨cur, hc⟩ := ownsRow_tag ho hb
  rw [hc] at hO
  cases hO
  simp [dkind] at hd
theorem Dw.count {w W : World} {d K : Nat} {a : A} (h : Dw w d K a W) : a.files.length ≤ K := by
  obtain ⟨S, hS, hD⟩ := h.disk
  rw [← hS, ← hD.same, List.length_map]
  exact hD.count
theorem rest_no (s : Bs) : ((⟨s.toArray⟩ : ByteArray).toList == []) = !decide (s ≠ []) := by
  rw [ByteArray.toList_eq]
  cases s <;> simp
set_option maxRecDepth 100000 in
set_option maxHeartbeats 8000000 in
theorem walReads_any (v : Value) (L : List Sy) (stale : Bool) (w : World) (hL : SegsAt w v L) (hs : ∀ y ∈ L, y.ls.length ≤ maxLen ∧ (∀ l ∈ y.ls, l.length ≤ maxLen) ∧ y.rest.length ≤ maxLen) (_hn : L.length ≤ maxLen) (hv : Vars w) :
    Calls Tryz.prog 5 #[v, .bool stale] w fun e w' => e = .returned (.bool true) ∧ Below w.heap.size w w' := by
  obtain ⟨va, vc, rfl, hvc, hcells⟩ := hL
  obtain ⟨i9, hi9, hz0, hz1, hz2⟩ := info_parts info_str
  have HV := hide hv
  have HC := hide hcells
  have HS := hide hs
  clear hv hcells hs
  have HN := hide (playNew w)
  go_enter Tryz.func5, Tryz.ntmps5
  go_wp2_with (go_at_call 9; refine HN.out.mono ?_; rintro e w1 ⟨rfl, k1, k2⟩; have K1 : Hid (Dw w w.heap.size 0 A0 w1) := ⟨k1, k2⟩; clear k1 k2)
  clear HN
  go_loopw [6, 7, 8, 9, 10, 11] (fun vw vc vf vn vb vi wr => ∃ (i K number files mg mc : Nat) (m : List Bs) (count broken : Bool), i ≤ L.length ∧ (i : Int) ≤ 7 ∧ K ≤ i ∧ number ≤ 2 * i ∧ m.length ≤ 6 * i ∧ files ≤ i ∧ vi = .int .i64 i ∧ vw = .slice (some ⟨mg, 0, none⟩) m.length mc ∧ vc = .bool count ∧ vf = .int .i64 files ∧ vn = .int .i64 number ∧ vb = .bool broken ∧ Hid (Rl w K number m (.slice (some ⟨mg, 0, none⟩) m.length mc) count files broken wr)) (fun _ _ _ _ _ vi _ => 7 - (intOf vi).toNat)
  case atStart =>
    have hb1 : Below w1.heap.size w1 (w1.alloc (.cells #[] 9)) := (Below.refl _ _).alloc (Nat.le_refl _) _
    refine ⟨0, 0, 0, 0, w1.heap.size, 0, [], false, false, Nat.zero_le _, by omega, Nat.zero_le _, Nat.zero_le _, Nat.zero_le _, Nat.zero_le _, rfl, rfl, rfl, rfl, rfl, rfl, ⟨A0, fun _ => none, K1.out.under hb1, ?_, Hand.start, ⟨World.ownsRow_made w1 #[] 0 K1.out.below.size (Nat.zero_le _) rfl, fun g _ e => by cases e⟩⟩⟩
    exact ⟨⟨by simp [A0, Rises], rfl, rfl⟩, fun n _ _ => rfl, fun k f h => by simp [A0, seek] at h, by decide, fun f h => by simp [A0] at h⟩
  case round =>
    clear K1
    obtain ⟨i, K, number, files, mg, mc, m, count, broken, hi, hi7, hK, hnum, hml, hfl, rfl, rfl, rfl, rfl, rfl, rfl, HF⟩ := hrel
    by_cases hlt : i < L.length ∧ (i : Int) < 7
    · obtain ⟨h1, h2⟩ := hlt
      have h1' : (i : Int) < L.length := by omega
      obtain ⟨a, R, hD, hLd, hH, hM⟩ := HF.out.all
      obtain ⟨y, hy⟩ : ∃ y, L[i]? = some y := ⟨_, List.getElem?_eq_getElem h1⟩
      obtain ⟨vb, voff, vj, rfl, hc0, hc1, hc2, hc3, hT⟩ := HC.out i y hy
      have q0 : wr.cell? ⟨vb, voff + i * 4, none⟩ = some (.int .i64 y.head) := (hD.below.cell (p := ⟨vb, voff + i * 4, none⟩) (cell_lt hc0)).trans hc0
      have q3 : wr.cell? ⟨vb, voff + i * 4 + 3, none⟩ = some (.bool y.skip) := (hD.below.cell (p := ⟨vb, voff + i * 4 + 3, none⟩) (cell_lt hc3)).trans hc3
      have hss := HS.out y (List.mem_of_getElem? hy)
      have hx2 : ∀ r ∈ cut7 y.ls, r.length ≤ 200 := fun r hr => cut7_few hr
      have hxl := cut7_length y.ls
      obtain ⟨ja, jn, jc, hvj⟩ : ∃ a n c, vj = .slice a n c := by obtain ⟨a, c, h, _⟩ := hT; exact ⟨a, _, c, h⟩
      subst hvj
      have HCUT : Hid (∀ W, Below w.heap.size w W → _) := fun W hW => cut7s_any (.slice ja jn jc) y.ls W (hT.below hW) hss.2.1 hss.1
      have HFEW : Hid (∀ W, _) := fun W => few7_any y.rest W hss.2.2
      have hfl7 := few7_length y.rest
      generalize cut7 y.ls = x at *
      generalize few7 y.rest = rs0 at *
      have HCC := hide (And.intro hc0 (And.intro hc1 hc2))
      have HD := hide hD
      have HM := hide hM
      have HLD := hide hLd
      have HH := hide hH
      have HX2 := hide hx2
      clear hD hM hLd hH hc0 hc1 hc2 hc3 hT hss hy hx2
      go_upto_if 44 with fail
      go_cut [9, 10] (fun v9 v10 wx => ∃ (n0 : Nat) (bk : Bool), n0 ≤ number + 1 ∧ v9 = .int .i64 ((n0 + 1 : Nat) : Int) ∧ v10 = .bool bk ∧ wx = wr ∧ Hid (Laid a R n0 (fun _ => False) ∧ Hand R n0 m count files bk))
      case first =>
        cases hsk : y.skip with
        | true =>
          rw [hsk] at q3
          go_wp2
          go_meet
          exact ⟨number + 1, true, Nat.le_refl _, by first | rfl | go_num | (simp; done), rfl, rfl, ⟨HLD.out.skip, HH.out.skip⟩⟩
        | false =>
          rw [hsk] at q3
          go_wp2
          go_meet
          exact ⟨number, broken, Nat.le_succ _, by first | rfl | go_num | (simp; done), rfl, rfl, ⟨HLD.out, HH.out⟩⟩
      case rest =>
        obtain ⟨n0, bk, hn0, rfl, rfl, rfl, HLH⟩ := hcut
        clear q3
        generalize hyh : y.head = h at q0
        have HYH := hide hyh
        clear hyh
        go_upto_if 52 with fail
        go_cut [12] (fun v12 wx => ∃ (hb : Bool) (B : ByteArray), v12 = .string B ∧ Hid (B = ⟨(if hb = true then [66] else [71] : Bs).toArray⟩) ∧ (hb = true ↔ h ≤ 2) ∧ wx = wc)
        case first =>
          by_cases hh2 : 2 < h
          · go_wp2
            go_meet
            exact ⟨false, _, rfl, hide rfl, by simp; omega, rfl⟩
          · go_wp2
            go_meet
            exact ⟨true, _, rfl, hide rfl, by simp; omega, rfl⟩
        case rest =>
          obtain ⟨hb, B, rfl, HB12, hhb, rfl⟩ := hcut
          obtain ⟨T13, HT13⟩ : ∃ T : ByteArray, Hid (T = ⟨(hd hb).toArray⟩) := ⟨_, hide rfl⟩
          have HHD : Hid (∀ W, Calls Tryz.prog 14 #[.string B] W fun e W' => e = .returned (.string T13) ∧ Below W.heap.size W W') := fun W => by rw [HB12.out, HT13.out]; exact handFrame _ W (by cases hb <;> decide)
          obtain ⟨X13, HX13⟩ : ∃ T : ByteArray, Hid (T = ⟨(hk 2).toArray⟩) := ⟨_, hide rfl⟩
          have HHX : Hid (∀ W, Calls Tryz.prog 14 #[.string ⟨#[120]⟩] W fun e W' => e = .returned (.string X13) ∧ Below W.heap.size W W') := fun W => by rw [HX13.out]; exact handFrame [120] W (by decide)
          obtain ⟨bad, hbad⟩ : ∃ bad : Bool, bad = decide (h < 0 ∨ 4 < h) := ⟨_, rfl⟩
          go_upto_region 15 with (go_at_call 14; refine (HHD.out _).mono ?_; rintro e w4 ⟨rfl, k4⟩; have r0 := (k4.cell (p := ⟨vb, voff + i * 4, none⟩) (cell_lt q0)).trans q0; have D4 := hide (HD.out.under k4); have M4 := hide (HM.out.under k4); clear k4)
          go_cut [68] (fun v68 wx => v68 = .bool bad ∧ wx = w4)
          case first =>
            by_cases g1 : h < 0
            · have hbe : bad = true := by rw [hbad]; simp [g1]
              clear hbad
              subst hbe
              go_wp2
              go_meet
              exact ⟨rfl, rfl⟩
            · by_cases g2 : 4 < h
              · have hbe : bad = true := by rw [hbad]; simp [g2]
                clear hbad
                subst hbe
                go_wp2
                go_meet
                exact ⟨rfl, rfl⟩
              · have hbe : bad = false := by rw [hbad]; simp [g1, g2]
                clear hbad
                subst hbe
                go_wp2
                go_meet
                exact ⟨rfl, rfl⟩
          case rest =>
            obtain ⟨rfl, rfl⟩ := hcut
            go_upto_if 68 with fail
            go_cut [13] (fun v13 wx => ∃ (k : Nat) (T : ByteArray), v13 = .string T ∧ Hid (T = ⟨(hk k).toArray⟩) ∧ (bad = true → k = 2) ∧ (bad = false → k = if hb = true then 0 else 1) ∧ Hid (Dw w w.heap.size K a wx ∧ Mr w (.slice none 0 0) (.slice (some ⟨mg, 0, none⟩) m.length mc) m wx))
            case first =>
              clear hbad
              cases bad with
              | true =>
                go_wp2_with (go_at_call 14; refine (HHX.out _).mono ?_; rintro e w5 ⟨rfl, k5⟩; have D5 := hide (And.intro (D4.out.under k5) (M4.out.under k5)); clear k5)
                go_meet
                exact ⟨2, _, rfl, HX13, fun _ => rfl, (fun h => by cases h), D5⟩
              | false =>
                go_wp2
                go_meet
                exact ⟨if hb = true then 0 else 1, _, rfl, by show _ = _; rw [HT13.out]; cases hb <;> rfl, (fun h => by cases h), fun _ => rfl, ⟨D4.out, M4.out⟩⟩
            case rest =>
              obtain ⟨k, T, rfl, HT, hk1, hk2, HDM⟩ := hcut
              clear HHD HHX HT13 HX13 D4 M4 HD HM q0 r0
              have q1 : wc.cell? ⟨vb, voff + i * 4 + 1, none⟩ = some (.slice ja jn jc) := (HDM.out.1.below.cell (p := ⟨vb, voff + i * 4 + 1, none⟩) (cell_lt HCC.out.2.1)).trans HCC.out.2.1
              have HCU := hide (HCUT.out wc HDM.out.1.below)
              go_wp2_with (go_at_call 12; refine HCU.out.mono ?_; rintro e w6 ⟨xg, xc, rfl, hown, k6⟩; have D6 := hide (HDM.out.1.under k6); have M6 := hide (HDM.out.2.under k6); have X6 := hide (Mr.mk (w := w) (rv := .slice none 0 0) (m := x) (own_mono hown HDM.out.1.below.size) (fun g _ e => by cases e)); clear k6 hown)
              go_loopw [13, 15] (fun vt vk wk => ∃ (j : Nat) (Tj : ByteArray), j ≤ x.length ∧ Tj.size ≤ 17 + 217 * j ∧ vk = .int .i64 j ∧ vt = .string Tj ∧ Hid (Tj = ⟨(hk k ++ frs (x.take j)).toArray⟩) ∧ Hid (Below w6.heap.size w6 wk)) (fun _ vk _ => x.length - (intOf vk).toNat)
              case atStart => exact ⟨0, T, Nat.zero_le _, by rw [HT.out, ba_size, hk_length]; omega, rfl, rfl, by show _ = _; rw [HT.out]; simp [frs], Below.refl _ _⟩
              case round =>
                obtain ⟨j, Tj, hj, hTz, rfl, rfl, HTj, HBj⟩ := hrel
                by_cases hjl : j < x.length
                · have hjl' : (j : Int) < x.length := by omega
                  obtain ⟨t, ht⟩ : ∃ t, x[j]? = some t := ⟨_, List.getElem?_eq_getElem hjl⟩
                  have htl := HX2.out t (List.mem_of_getElem? ht)
                  have qt : wr.cell? ⟨xg, j, none⟩ = some (.string ⟨t.toArray⟩) := by
                    have := cells_of_own (X6.out.under HBj.out).own j (.string ⟨t.toArray⟩) (by unfold tv; rw [List.getElem?_map, ht]; rfl)
                    rw [Go.WideShapes.add_plain, Nat.zero_add] at this
                    exact this
                  obtain ⟨G, HG⟩ : ∃ G : ByteArray, Hid (G = ⟨(fr (114 :: t)).toArray⟩) := ⟨_, hide rfl⟩
                  have HFR : Hid (∀ W, Calls Tryz.prog 14 #[.string ((⟨#[114]⟩ : ByteArray) ++ ⟨t.toArray⟩)] W fun e W' => e = .returned (.string G) ∧ Below W.heap.size W W') := fun W => by
                    rw [HG.out, show (⟨#[114]⟩ : ByteArray) ++ ⟨t.toArray⟩ = ⟨(114 :: t).toArray⟩ from ba_append [114] t]
                    exact handFrame (114 :: t) W (by simp; omega)
                  have hGz : G.size = 17 + t.length := by rw [HG.out, ba_size, fr_length]; simp; omega
                  have hTG : (Tj ++ G).size = Tj.size + G.size := ByteArray.size_append ..
                  have HTS : Hid (Tj ++ G = ⟨(hk k ++ frs (x.take (j + 1))).toArray⟩) := by show _ = _; rw [HTj.out, HG.out, ba_append, frs_snoc x j t ht, List.append_assoc]
                  have hz : (⟨t.toArray⟩ : ByteArray).size = t.length := ba_size t
                  clear ht
                  generalize (⟨t.toArray⟩ : ByteArray) = X at *
                  go_wp2_with (go_at_call 14; refine (HFR.out _).mono ?_; rintro e w7 ⟨rfl, k7⟩; have B7 := hide (HBj.out.trans (k7.mono HBj.out.size)); clear k7)
                  go_roundw
                  case rel => exact ⟨j + 1, _, by omega, by omega, by go_num, rfl, HTS, B7⟩
                  case measure => simp [intOf]; omega
                · have hjl' : ¬ ((j : Int) < x.length) := by omega
                  have hje : j = x.length := by omega
                  have HTE : Hid (Tj = ⟨(hk k ++ frs x).toArray⟩) := by show _ = _; rw [HTj.out, hje, List.take_length]
                  have D7 := hide (D6.out.under HBj.out)
                  have M7 := hide (M6.out.under HBj.out)
                  have X7 := hide (X6.out.under HBj.out)
                  have q2 : wr.cell? ⟨vb, voff + i * 4 + 2, none⟩ = some (.string ⟨y.rest.toArray⟩) := (D7.out.below.cell (p := ⟨vb, voff + i * 4 + 2, none⟩) (cell_lt HCC.out.2.2)).trans HCC.out.2.2
                  obtain ⟨RS, HRS⟩ : ∃ RS : ByteArray, Hid (RS = ⟨rs0.toArray⟩) := ⟨_, hide rfl⟩
                  have HF2 : Hid (∀ W, Calls Tryz.prog 29 #[.string ⟨y.rest.toArray⟩] W fun e w' => e = .returned (.string RS) ∧ w' = W) := fun W => by rw [HRS.out]; exact HFEW.out W
                  have HU : Hid (∀ W, Calls Tryz.prog 30 #[.string RS, .int .i64 0] W fun e W' => (∃ (x : ByteArray) (p r : Int), e = .returned (.tuple #[.string x, .int .i64 p, .int .i64 r]) ∧ (r ≠ 0 → unf1 rs0 = none)) ∧ Below W.heap.size W W') := fun W => by rw [HRS.out]; exact handUnframe rs0 W (by omega)
                  clear HTj HBj D6 M6 X6 HCU q1 HDM HFEW
                  go_upto_if 103 with (first
                    | (go_at_call 29; refine (HF2.out _).mono ?_; rintro e w8 ⟨rfl, hw8⟩; replace hw8 := hw8.symm; subst hw8)
                    | (go_at_call 30; refine (HU.out _).mono ?_; rintro e w9 ⟨⟨xx, pp, rr, rfl, hr⟩, k9⟩; have D9 := hide (D7.out.under k9); have M9 := hide (M7.out.under k9); have X9 := hide (X7.out.under k9); have HR := hide hr; clear hr k9))
                  go_cut [16] (fun v16 wx => ∃ (rs : Bs) (B : ByteArray), v16 = .string B ∧ Hid (B = ⟨rs.toArray⟩) ∧ Hid (unf1 rs = none) ∧ rs.length ≤ 200 ∧ wx = w9)
                  case first =>
                    by_cases hrr : rr = 0
                    · subst hrr
                      go_wp2
                      go_meet
                      exact ⟨[122], _, rfl, hide rfl, by show _ = _; decide, by decide, rfl⟩
                    · go_wp2
                      go_meet
                      exact ⟨rs0, _, rfl, HRS, HR.out hrr, hfl7, rfl⟩
                  case rest =>
                    obtain ⟨rs, BR, rfl, HBR, HUN, hrs, rfl⟩ := hcut
                    have hfrs := frs_len x HX2.out
                    obtain ⟨a2, hput, hL2⟩ := HLH.out.1.seg (hk k ++ frs x ++ rs) (by rw [List.length_append, List.length_append, hk_length]; omega) (by omega)
                    obtain ⟨DD, HDD⟩ : ∃ DD : ByteArray, Hid (DD = ⟨(Lib.decDigits (n0 + 1)).toArray⟩) := ⟨_, hide rfl⟩
                    have hDz : DD.size ≤ 20 := by rw [HDD.out, ba_size]; exact dec_short _ (by omega)
                    have hBz : BR.size ≤ 200 := by rw [HBR.out, ba_size]; exact hrs
                    have HIT : Hid (∀ W, Below w.heap.size w W → Calls Tryz.prog 32 #[.int .i64 ((n0 : Int) + 1)] W fun e W' => e = .returned (.string DD) ∧ Below W.heap.size W W') := fun W hW => by
                      have := handItoa (n0 + 1) W (Vars.below HV.out hW) (by omega)
                      rw [show ((n0 + 1 : Nat) : Int) = (n0 : Int) + 1 by omega, ← HDD.out] at this
                      exact this
                    have HWR : Hid (∀ W, Dw w w.heap.size K a W → Calls Tryz.prog 31 #[.pointer (some ⟨w.heap.size, 0, none⟩), .string ((⟨#[108, 111, 103, 46]⟩ : ByteArray) ++ DD), .string (Tj ++ BR)] W fun e W' => e = .returned (.int .i64 0) ∧ Dw w w.heap.size (K + 1) a2 W' ∧ ∀ rv mv m, Mr w rv mv m W → Mr w rv mv m W') := fun W hW => by
                      have := handWrite w w.heap.size K a W hW (seg (n0 + 1)) (hk k ++ frs x ++ rs) (by omega) (by have := seg_length (n0 + 1) (by omega); omega) (by rw [List.length_append, List.length_append, hk_length]; omega)
                      rw [hput] at this
                      rw [HDD.out, HTE.out, HBR.out, show (⟨#[108, 111, 103, 46]⟩ : ByteArray) ++ ⟨(Lib.decDigits (n0 + 1)).toArray⟩ = ⟨(seg (n0 + 1)).toArray⟩ from ba_append logB _, ba_append]
                      exact this
                    have HL2 := hide hL2
                    clear hput hL2
                    go_upto_region 28 with (first
                      | (go_at_call 32; refine (HIT.out _ D9.out.below).mono ?_; rintro e w10 ⟨rfl, k10⟩; have DA := hide (D9.out.under k10); have MA := hide (M9.out.under k10); have XA := hide (X9.out.under k10); clear k10)
                      | (go_at_call 31; refine (HWR.out _ DA.out).mono ?_; rintro e w11 ⟨rfl, k11, m11⟩; have DB := hide k11; have MB := hide (m11 _ _ _ MA.out); have XB := hide (m11 _ _ _ XA.out); clear k11 m11))
                    have r1 : w11.cell? ⟨vb, voff + i * 4, none⟩ = some (.int .i64 h) := by
                      have := (DB.out.below.cell (p := ⟨vb, voff + i * 4, none⟩) (cell_lt HCC.out.1)).trans HCC.out.1
                      rw [HYH.out] at this
                      exact this
                    have hbe := rest_no rs
                    rw [← HBR.out] at hbe
                    obtain ⟨nb, hnb⟩ : ∃ nb : Bool, nb = decide (rs ≠ []) := ⟨_, rfl⟩
                    rw [← hnb] at hbe
                    have HNB := hide hnb
                    have HHN := hide HLH.out.2
                    clear HIT HWR D9 M9 X9 DA MA XA HR HU HF2 q2 hfrs D7 M7 X7 HTE HDD HBR HT HLH HCUT hnb HLD HH
                    go_cut [126] (fun v126 wx => v126 = .bool bad ∧ wx = w11)
                    case first =>
                      by_cases g1 : h < 0
                      · have hbe : bad = true := by rw [hbad]; simp [g1]
                        clear hbad
                        subst hbe
                        go_wp2
                        go_meet
                        exact ⟨rfl, rfl⟩
                      · by_cases g2 : 4 < h
                        · have hbe : bad = true := by rw [hbad]; simp [g2]
                          clear hbad
                          subst hbe
                          go_wp2
                          go_meet
                          exact ⟨rfl, rfl⟩
                        · have hbe : bad = false := by rw [hbad]; simp [g1, g2]
                          clear hbad
                          subst hbe
                          go_wp2
                          go_meet
                          exact ⟨rfl, rfl⟩
                    case rest =>
                      obtain ⟨rfl, rfl⟩ := hcut
                      clear hbad r1
                      have HX3 : Hid (∀ r ∈ x, r.length < 2147483647) := fun r hr => Nat.lt_of_le_of_lt (HX2.out r hr) (by decide)
                      cases bad with
                      | true =>
                        have hk2' : k = 2 := hk1 rfl
                        subst hk2'
                        clear hk1 hk2
                        go_wp2_with fail
                        go_roundw
                        case rel => exact ⟨i + 1, K + 1, n0 + 1, files, mg, mc, m, count, true, by omega, by omega, by omega, by omega, by omega, by omega, by go_num, rfl, rfl, rfl, by first | rfl | go_num | (simp; done), rfl, ⟨a2, _, DB.out, HL2.out, HHN.out.other _ (by rw [List.append_assoc]; exact hk_head _ _), MB.out⟩⟩
                        case measure => simp [intOf]; omega
                      | false =>
                        have hk0 := hk2 rfl
                        clear hk1 hk2
                        cases hb with
                        | true =>
                          have hB : B = ⟨#[66]⟩ := HB12.out
                          subst hB
                          have hk0' : k = 0 := hk0
                          subst hk0'
                          clear hk0 HB12 hhb
                          have hb0 : Below wc.heap.size wc (wc.alloc (.cells #[] 9)) := (Below.refl _ _).alloc (Nat.le_refl _) _
                          have HOWN0 : Hid ((wc.alloc (.cells #[] 9)).ownsRow w.heap.size 9 1 (.slice (some ⟨wc.heap.size, 0, none⟩) 0 0) 0 []) := World.ownsRow_made wc #[] 0 DB.out.below.size (Nat.zero_le _) rfl
                          have HCX := hide (cells_of_own (own_below XB.out.own hb0))
                          have DC := hide (DB.out.under hb0)
                          clear hb0
                          go_wp2_with (at_builtin; refine wpList_append_own _ rfl _ _ 30 rfl w.heap.size 9 i9 (.string ⟨#[]⟩) 1 16 under_strs hi9 hz0 hz1 hz2 rfl (by decide) _ _ _ rfl HOWN0.out ⟨xg, 0, none⟩ x.length xc (tv x) rfl ?b1 HCX.out (tv_one x) ?b3 ?b4 ?b5 ?_)
                          case b1 => rw [tv_length, Nat.mul_one]
                          case b3 => unfold maxLen; omega
                          case b4 => omega
                          case b5 => exact DC.out.below.size
                          intro v1 w12 hown1 hgrow1 hne1
                          obtain ⟨g1, c1, rfl⟩ := own_some hown1 hne1
                          have DD := hide (DC.out.grown HOWN0.out hgrow1)
                          try rw [Nat.zero_add]
                          have MD := hide (Mr.mk (w := w) (rv := .slice none 0 0) (m := x) hown1 (fun g _ e => by cases e))
                          clear hown1 hgrow1 hne1 HOWN0 HCX DC
                          go_wp2_with fail
                          go_roundw
                          case rel => exact ⟨i + 1, K + 1, n0 + 1, 1, g1, c1, x, true, nb, by omega, by omega, by omega, by omega, by omega, by omega, by go_num, rfl, rfl, rfl, by first | rfl | go_num | (simp; done), by first | rfl | (simp; done), ⟨a2, _, DD.out, HL2.out, by rw [HNB.out]; exact HHN.out.anew x rs HX3.out HUN.out, MD.out⟩⟩
                          case measure => simp [intOf]; omega
                        | false =>
                          have hB : B = ⟨#[71]⟩ := HB12.out
                          subst hB
                          have hk0' : k = 1 := hk0
                          subst hk0'
                          clear hk0 HB12 hhb
                          have hid : count = false ∨ bk = true ∨ (count = true ∧ bk = false) := by cases count <;> cases bk <;> simp
                          rcases hid with rfl | rfl | ⟨rfl, rfl⟩
                          · go_wp2_with fail
                            go_roundw
                            case rel => exact ⟨i + 1, K + 1, n0 + 1, files, mg, mc, m, false, true, by omega, by omega, by omega, by omega, by omega, by omega, by go_num, rfl, rfl, rfl, by first | rfl | go_num | (simp; done), rfl, ⟨a2, _, DB.out, HL2.out, HHN.out.idle _ (by rw [List.append_assoc]; exact hk_head _ _) (.inl rfl), MB.out⟩⟩
                            case measure => simp [intOf]; omega
                          · cases count with
                            | false =>
                              go_wp2_with fail
                              go_roundw
                              case rel => exact ⟨i + 1, K + 1, n0 + 1, files, mg, mc, m, false, true, by omega, by omega, by omega, by omega, by omega, by omega, by go_num, rfl, rfl, rfl, by first | rfl | go_num | (simp; done), rfl, ⟨a2, _, DB.out, HL2.out, HHN.out.idle _ (by rw [List.append_assoc]; exact hk_head _ _) (.inr rfl), MB.out⟩⟩
                              case measure => simp [intOf]; omega
                            | true =>
                              go_wp2_with fail
                              go_roundw
                              case rel => exact ⟨i + 1, K + 1, n0 + 1, files, mg, mc, m, true, true, by omega, by omega, by omega, by omega, by omega, by omega, by go_num, rfl, rfl, rfl, by first | rfl | go_num | (simp; done), rfl, ⟨a2, _, DB.out, HL2.out, HHN.out.idle _ (by rw [List.append_assoc]; exact hk_head _ _) (.inr rfl), MB.out⟩⟩
                              case measure => simp [intOf]; omega
                          · have HCX := hide (cells_of_own XB.out.own)
                            go_wp2_with (at_builtin; refine wpList_append_own _ rfl _ _ 30 rfl w.heap.size 9 i9 (.string ⟨#[]⟩) 1 16 under_strs hi9 hz0 hz1 hz2 rfl (by decide) _ _ _ rfl MB.out.own ⟨xg, 0, none⟩ x.length xc (tv x) rfl ?b1 HCX.out (tv_one x) ?b3 ?b4 ?b5 ?_)
                            case b1 => rw [tv_length, Nat.mul_one]
                            case b3 => unfold maxLen; omega
                            case b4 => omega
                            case b5 => exact DB.out.below.size
                            intro v1 w12 hown1 hgrow1 hne1
                            obtain ⟨g1, c1, rfl⟩ := own_some hown1 hne1
                            have DD := hide (DB.out.grown MB.out.own hgrow1)
                            have hlen : (m ++ x).length = m.length + x.length := List.length_append ..
                            rw [← hlen] at hown1 ⊢
                            rw [← tv_append] at hown1
                            have hml' : (m ++ x).length ≤ 6 * (i + 1) := by omega
                            have MD := hide (Mr.mk (w := w) (rv := .slice none 0 0) (m := m ++ x) hown1 (fun g _ e => by cases e))
                            have HGO := hide (HHN.out.goes x rs HX3.out HUN.out)
                            clear hown1 hgrow1 hne1 HCX hlen
                            generalize m ++ x = m' at *
                            go_wp2_with fail
                            go_roundw
                            case rel => exact ⟨i + 1, K + 1, n0 + 1, files + 1, g1, c1, m', true, nb, by omega, by omega, by omega, by omega, by omega, by omega, by go_num, rfl, rfl, by first | rfl | go_num | (simp; done), by first | rfl | go_num | (simp; done), by first | rfl | (simp; done), ⟨a2, _, DD.out, HL2.out, by rw [HNB.out]; exact HGO.out, MD.out⟩⟩
                            case measure => simp [intOf]; omega
    · obtain ⟨a, R, hD, hLd, hH, hM⟩ := HF.out.all
      have hex : ¬ ((i : Int) < L.length) ∨ ((i : Int) < L.length ∧ ¬ ((i : Int) < 7)) := by omega
      have HD := hide hD
      have HM := hide hM
      have HLD := hide hLd
      have HH := hide hH
      clear hD hM hLd hH hlt HF
      obtain ⟨aN, hpN, hLN⟩ := HLD.out.ends_new
      have HWN : Hid (∀ W, Dw w w.heap.size K a W → Calls Tryz.prog 31 #[.pointer (some ⟨w.heap.size, 0, none⟩), .string ⟨#[108, 111, 103, 46, 110, 101, 119]⟩, .string ⟨#[104, 97, 108, 102]⟩] W fun e W' => e = .returned (.int .i64 0) ∧ Dw w w.heap.size (K + 1) aN W' ∧ ∀ rv mv m, Mr w rv mv m W → Mr w rv mv m W') := fun W hW => by
        have := handWrite w w.heap.size K a W hW newB [104, 97, 108, 102] (by omega) (by decide) (by decide)
        rw [hpN] at this
        exact this
      have HLN := hide hLN
      clear hpN hLN
      rcases hex with e1 | ⟨e1, e2⟩
      all_goals
        cases stale
        all_goals
          go_upto_region 39 with (go_at_call 31; refine (HWN.out _ HD.out).mono ?_; rintro e w2 ⟨rfl, k2, m2⟩; have D2 := hide k2; have M2 := hide (m2 _ _ _ HM.out); clear k2 m2)
          obtain ⟨K1, a1, E, hK1, hE, HL1, HD1, HM1⟩ : ∃ (K1 : Nat) (a1 : A) (E : Bs → Prop), K1 ≤ K + 1 ∧ (∀ k, E k → k = newB) ∧ Hid (Laid a1 R number E) ∧ Hid (Dw w w.heap.size K1 a1 _) ∧ Hid (Mr w (.slice none 0 0) (.slice (some ⟨mg, 0, none⟩) m.length mc) m _) := (by
            first
              | exact ⟨K + 1, aN, _, Nat.le_refl _, fun k h => h.resolve_left id, HLN, D2, M2⟩
              | exact ⟨K, a, _, Nat.le_succ _, fun _ h => h.elim, HLD, HD, HM⟩)
          obtain ⟨a2, a3, hp, hs, hf3, hs3, hd3, a4, t, l, hg3, ho3, ho4, hg4, hf4, hs4, hd4, hlen4, hrec, hsg⟩ := HL1.out.ends hE HH.out (by omega)
          have HWO : Hid (∀ W, Dw w w.heap.size K1 a1 W → Calls Tryz.prog 31 #[.pointer (some ⟨w.heap.size, 0, none⟩), .string ⟨#[111, 116, 104, 101, 114]⟩, .string ⟨#[120]⟩] W fun e W' => e = .returned (.int .i64 0) ∧ Dw w w.heap.size (K1 + 1) a2 W' ∧ ∀ rv mv m, Mr w rv mv m W → Mr w rv mv m W') := fun W hW => (by
            have := handWrite w w.heap.size K1 a1 W hW otherB [120] (by omega) (by decide) (by decide)
            rw [hp] at this
            exact this)
          have HSY : Hid (∀ W, Dw w w.heap.size (K1 + 1) a2 W → Calls Tryz.prog 33 #[.pointer (some ⟨w.heap.size, 0, none⟩)] W fun e W' => e = .returned (.int .i64 0) ∧ Dw w w.heap.size (K1 + 1) a3 W' ∧ ∀ rv mv m, Mr w rv mv m W → Mr w rv mv m W') := fun W hW => (by
            have := handSync w w.heap.size (K1 + 1) a2 W hW
            rw [hs] at this
            exact this)
          have HREC := hide hrec
          have HSG := hide hsg
          have HLEN := hide hlen4
          have HE := hide (And.intro hf3 (And.intro hs3 (And.intro hd3 (And.intro hg3 (And.intro ho3 (And.intro ho4 (And.intro hg4 (And.intro hf4 (And.intro hs4 (And.intro hd4 (And.intro hlen4 (And.intro hrec hsg))))))))))))
          clear hp hs hf3 hs3 hd3 hg3 ho3 ho4 hg4 hf4 hs4 hd4 hlen4 hrec hsg hE
          go_upto_region 41 with (first
            | (go_at_call 31; refine (HWO.out _ HD1.out).mono ?_; rintro e w3 ⟨rfl, k3, m3⟩; have D3 := hide k3; have M3 := hide (m3 _ _ _ HM1.out); clear k3 m3)
            | (go_at_call 33; refine (HSY.out _ D3.out).mono ?_; rintro e w4 ⟨rfl, k4, m4⟩; have D4 := hide k4; have M4 := hide (m4 _ _ _ M3.out); clear k4 m4))
          have hc3 := D4.out.count
          have HOP := hide (handOpen w HV.out w.heap.size (K1 + 1) 100 a3 w4 D4.out (by decide) HE.out.2.2.1 HE.out.2.1 HE.out.1 (by rw [HE.out.2.2.2.1, HREC.out]; omega) (by omega) a4 l t HE.out.2.2.2.2.1 HE.out.2.2.2.1)
          obtain ⟨K2, hK2⟩ : ∃ K2, K2 = K1 + 1 + a3.files.length + 1 := ⟨_, rfl⟩
          have hK2' : K2 ≤ 100 := (by omega)
          rw [← hK2] at HOP
          clear hK2 hc3 HWO HSY D3 M3 HD1 HM1
          go_upto_region 42 with (go_at_call 10; refine HOP.out.mono ?_; rintro e w5 ⟨b, rv, rfl, k5, m5⟩; have P5 := hide k5; have M5 := hide (m5 _ _ _ M4.out); clear k5 m5)
          have HAW := hide (walAwake_any w5 (Vars.below HV.out P5.out.below))
          clear HOP D4 M4
          go_upto_region 44 with (first
            | (go_at_call 11; refine HAW.out.mono ?_; rintro e w6 ⟨rfl, k6⟩; have P6 := hide (P5.out.under k6); have M6 := hide (M5.out.under k6); clear k6; have HALL := hide (playAll w w.heap.size _ b a4 l rv w6 P6.out (by rw [HREC.out]; omega)); rw [HREC.out] at HALL)
            | (go_at_call 20; refine HALL.out.mono ?_; rintro e w7 ⟨v7, rfl, t7, k7⟩; have P7 := hide (P6.out.under k7); have M7 := hide (M6.out.under k7); have HSA := hide (same_any v7 _ m m w7 t7 M7.out.texts (by omega)); rw [decide_eq_true rfl] at HSA; clear t7 k7)
            | (go_at_call 19; refine HSA.out.mono ?_; rintro e w8 ⟨rfl, k8⟩; have P8 := hide (P7.out.under k8); have M8 := hide (M7.out.under k8); clear k8)
            | (go_at_call 23; refine (handSegs w w.heap.size _ b a4 l rv w8 P8.out files HSG.out).mono ?_; rintro e w9 ⟨⟨va9, vc9, rfl⟩, k9⟩; have P9 := hide (P8.out.under k9); have M9 := hide (M8.out.under k9); clear k9; have HNM := hide (playNames w w.heap.size _ b a4 l rv w9 P9.out); rw [HLEN.out] at HNM)
            | (go_at_call 24; refine HNM.out.mono ?_; rintro e w10 ⟨⟨va10, vc10, rfl⟩, k10⟩; have P10 := hide (P9.out.under k10); have M10 := hide (M9.out.under k10); clear k10))
          have HOP := hide (handOpen w HV.out w.heap.size K2 100 a4 w10 ⟨P10.out.disk, P10.out.below⟩ (by decide) HE.out.2.2.2.2.2.2.2.2.2.1 HE.out.2.2.2.2.2.2.2.2.1 HE.out.2.2.2.2.2.2.2.1 (by rw [HE.out.2.2.2.2.2.2.1, HREC.out]; omega) (by rw [HLEN.out]; omega) a4 l 0 HE.out.2.2.2.2.2.1 HE.out.2.2.2.2.2.2.1)
          clear P5 M5 P6 M6 P7 M7 P8 M8 P9 M9 HAW HALL HSA HNM
          go_upto_region 45 with (go_at_call 10; refine HOP.out.mono ?_; rintro e w11 ⟨b2, rv2, rfl, k11, m11⟩; have P11 := hide k11; have M11 := hide (m11 _ _ _ M10.out); clear k11 m11)
          have HALL := hide (playAll w w.heap.size _ b2 a4 l rv2 w11 P11.out (by rw [HREC.out]; omega))
          rw [HREC.out] at HALL
          clear HOP P10 M10
          go_wp2_with (first
            | (go_at_call 20; refine HALL.out.mono ?_; rintro e w12 ⟨v12, rfl, t12, k12⟩; have P12 := hide (P11.out.under k12); have M12 := hide (M11.out.under k12); have HSA := hide (same_any v12 _ m m w12 t12 M12.out.texts (by omega)); rw [decide_eq_true rfl] at HSA; clear t12 k12)
            | (go_at_call 19; refine HSA.out.mono ?_; rintro e w13 ⟨rfl, k13⟩; have P13 := hide (P12.out.under k13); clear k13))
          go_ret
          exact ⟨rfl, P13.out.below⟩
end Go.Proofs.YtoineobjmllicaaGreatDoor
