/- Contract: the document's disk behind an Append, or a Write. -/
import Derived.Test.YtnjkahoaogeecaaDiskRefStrike
namespace Go.Dk
open Go.RowKit
/-- The file of that name, or an empty one. -/
def RD.fileOf (D : RD) (name : Bs) : RF := (seek RF.nm name D.rs).getD ⟨⟨name, [], false, []⟩, .slice none 0 0⟩
theorem fileOf_a {K : Nat} {w : World} {D : RD} (h : RefAt K w D) (name : Bs) : (D.fileOf name).a = D.a.fileOf name := by
  unfold RD.fileOf A.fileOf
  rw [← h.same, ← map_seek (na := RF.nm) (nb := AF.name) RF.a (fun _ => rfl) name D.rs]
  cases seek RF.nm name D.rs <;> rfl
theorem fileOf_puts {K : Nat} {w : World} {D : RD} (h : RefAt K w D) (name : Bs) : PutsV w (D.fileOf name).pv (D.fileOf name).a.puts := by
  unfold RD.fileOf
  cases hs : seek RF.nm name D.rs with
  | none => exact ⟨rfl, .inl ⟨rfl, rfl⟩⟩
  | some r => exact h.puts r (seek_some hs).1
theorem fileOf_small {K : Nat} {w : World} {D : RD} (h : RefAt K w D) {name : Bs} (hn : nameOk name = true) : Small K (D.fileOf name).a := by
  unfold RD.fileOf
  cases hs : seek RF.nm name D.rs with
  | none => exact ⟨Nat.zero_le _, fun i => by simp [AF.after], hn⟩
  | some r => exact h.small r (seek_some hs).1
theorem set5_kept {w : World} {g k : Nat} {o : Obj} (h : w.heap[k]? = some o) (hne : k ≠ g) (x y z u v : Value) :
    (((((w.setCell ⟨g, 0, none⟩ x).setCell ⟨g, 1, none⟩ y).setCell ⟨g, 2, none⟩ z).setCell ⟨g, 3, none⟩ u).setCell ⟨g, 4, none⟩ v).heap[k]? = some o :=
  set_kept (set_kept (set_kept (set_kept (set_kept h hne) hne) hne) hne) hne
theorem holds_of_sees {w : World} {v : Value} {k n : Nat} {xs : List Value} (h : Sees w v k n xs) : RegionOwn.Holds w v k n xs := by
  refine ⟨h.1, ?_⟩
  rcases h.2 with h' | ⟨b, off, cap, h1, _, _, h4, _⟩
  · exact .inl h'
  · exact .inr ⟨_, cap, h1, fun j u hj => by rw [add_lit]; exact h4 j u hj⟩
theorem fileOf_name {D : RD} (name : Bs) : (D.fileOf name).a.name = name := by
  unfold RD.fileOf
  cases hs : seek RF.nm name D.rs with
  | none => rfl
  | some r => exact (seek_some hs).2
end Go.Dk
namespace Go.Proofs.Ytnjkahoaogeecaa
open Go.RowKit Go.Dk
theorem info91 : (Try.prog.info? 91).map (fun i => (i.zero, i.size, i.bytes)) = some (some (.agg #[.string ⟨#[]⟩, .bool false]), 2, 24) := by kernel_rfl
theorem info91_ex : ∃ i, Try.prog.info? 91 = some i ∧ i.zero = some (.agg #[.string ⟨#[]⟩, .bool false]) ∧ i.size = 2 ∧ i.bytes = 24 := by
  have := info91
  cases hx : Try.prog.info? 91 with
  | none => rw [hx] at this; cases this
  | some i => rw [hx] at this; simp at this; exact ⟨i, rfl, this.1, this.2.1, this.2.2⟩
set_option maxRecDepth 100000 in
set_option maxHeartbeats 4000000 in
theorem rput_any (K : Nat) (D : RD) (name s : ByteArray) (whole : Bool) (w : World) (h : RefAt K w D) (hK1 : K + 1 ≤ 100000) (hn : name.size ≤ maxLen) (hs : s.size ≤ 100) (hroom : D.a.room ≤ 9223372036854775807) :
    Calls Try.prog 54 #[D.v, .string name, .agg #[.string s, .bool whole]] w fun e w' => ∃ D' : RD, e = .returned (.tuple #[D'.v, .int .i64 (D.a.doPut name.data.toList ⟨s.data.toList, whole⟩).2]) ∧ D'.a = (D.a.doPut name.data.toList ⟨s.data.toList, whole⟩).1 ∧ RefAt (K + 1) w' D' ∧ Below w.heap.size w w' := by
  obtain ⟨la, lc, hlv⟩ := Sees.form h.falls
  obtain ⟨fa, fc, hfv⟩ := Sees.form h.files
  have HSAME : Hid (∀ w' n, Below w.heap.size w w' → D.a.doPut name.data.toList ⟨s.data.toList, whole⟩ = (D.a, n) → ∃ D' : RD, Ending.returned (.tuple #[.agg #[.slice fa D.rs.length fc, .int .i64 D.a.room, .slice la (flen D.a.fall) lc, .int .i64 D.a.changes, .bool D.a.down], .int .i64 n]) = .returned (.tuple #[D'.v, .int .i64 (D.a.doPut name.data.toList ⟨s.data.toList, whole⟩).2]) ∧ D'.a = (D.a.doPut name.data.toList ⟨s.data.toList, whole⟩).1 ∧ RefAt (K + 1) w' D' ∧ Below w.heap.size w w') := fun w' n hb he => by
    rw [he]
    exact ⟨D, by unfold RD.v RD.cs; rw [hfv, hlv], rfl, (h.below hb).mono (Nat.le_succ K) hK1, hb⟩
  cases hd : D.a.down with
  | true =>
    have he : D.a.doPut name.data.toList ⟨s.data.toList, whole⟩ = (D.a, 7) := by
      unfold A.doPut ableOf
      rw [hd]
      rfl
    replace HSAME := hide (fun w' hb => HSAME.out w' 7 hb he)
    generalize hX : (fun (e : Ending) (w' : World) => ∃ D' : RD, e = .returned (.tuple #[D'.v, .int .i64 (D.a.doPut name.data.toList ⟨s.data.toList, whole⟩).2]) ∧ D'.a = (D.a.doPut name.data.toList ⟨s.data.toList, whole⟩).1 ∧ RefAt (K + 1) w' D' ∧ Below w.heap.size w w') = X
    replace HSAME : Hid (∀ w', Below w.heap.size w w' → X (.returned (.tuple #[.agg #[.slice fa D.rs.length fc, .int .i64 D.a.room, .slice la (flen D.a.fall) lc, .int .i64 D.a.changes, .bool D.a.down], .int .i64 7])) w') := by rw [← hX]; exact HSAME
    clear hX he h
    unfold RD.v RD.cs
    rw [hfv, hlv, hd]
    rw [hd] at HSAME
    go_enter Try.func54, Try.ntmps54
    go_wp2
    exact bodyPost_ret (results_cell2_row Try.results54 _ _ _ 27 _ (0, 0) _ rfl (three_below (Below.refl _ _)).2.2.1 Try.underlying27 rfl infoDisk) rfl (HSAME.out _ (three_below (Below.refl _ _)).2.2.2)
  | false =>
    cases hok : nameOk name.data.toList with
    | false =>
      have he : D.a.doPut name.data.toList ⟨s.data.toList, whole⟩ = (D.a, 60) := by
        unfold A.doPut ableOf
        rw [hd, hok]
        rfl
      replace HSAME := hide (fun w' hb => HSAME.out w' 60 hb he)
      generalize hX : (fun (e : Ending) (w' : World) => ∃ D' : RD, e = .returned (.tuple #[D'.v, .int .i64 (D.a.doPut name.data.toList ⟨s.data.toList, whole⟩).2]) ∧ D'.a = (D.a.doPut name.data.toList ⟨s.data.toList, whole⟩).1 ∧ RefAt (K + 1) w' D' ∧ Below w.heap.size w w') = X
      replace HSAME : Hid (∀ w', Below w.heap.size w w' → X (.returned (.tuple #[.agg #[.slice fa D.rs.length fc, .int .i64 D.a.room, .slice la (flen D.a.fall) lc, .int .i64 D.a.changes, .bool D.a.down], .int .i64 60])) w') := by rw [← hX]; exact HSAME
      have HNM : Hid (∀ w1, Calls Try.prog 26 #[.string name] w1 fun e w' => e = .returned (.bool false) ∧ w' = w1) := fun w1 => by have := rname_any name w1 hn; rw [hok] at this; exact this
      clear hX he h hok
      unfold RD.v RD.cs
      rw [hfv, hlv, hd]
      rw [hd] at HSAME
      go_enter Try.func54, Try.ntmps54
      go_wp2_with (go_at_call 26; refine (HNM.out _).mono ?_; rintro e w' ⟨rfl, rfl⟩)
      exact bodyPost_ret (results_cell2_row Try.results54 _ _ _ 27 _ (0, 0) _ rfl (three_below (Below.refl _ _)).2.2.1 Try.underlying27 rfl infoDisk) rfl (HSAME.out _ (three_below (Below.refl _ _)).2.2.2)
    | true =>
      obtain ⟨r, hr⟩ : ∃ r, r = D.fileOf name.data.toList := ⟨_, rfl⟩
      have hra : r.a = D.a.fileOf name.data.toList := by rw [hr]; exact fileOf_a h _
      have hrp : PutsV w r.pv r.a.puts := by rw [hr]; exact fileOf_puts h _
      have hrs : Small K r.a := by rw [hr]; exact fileOf_small h hok
      have hrn : r.a.name = name.data.toList := by rw [hr]; exact fileOf_name _
      obtain ⟨pa, pc, hpv⟩ := Sees.form hrp
      obtain ⟨M, hM⟩ : ∃ M : Int, M = ((if whole = true then 0 else r.a.bytes.length : Nat) : Int) + (s.size : Int) - (r.a.bytes.length : Int) := ⟨_, rfl⟩
      have hbl := hrs.bytes
      have hpl := hrs.puts
      have hcnt := h.count
      have hdo : D.a.doPut name.data.toList ⟨s.data.toList, whole⟩ = if holdsOf D.a M = false then (D.a, 61) else D.a.change (D.a.puts r.a ⟨s.data.toList, whole⟩) := by
        unfold A.doPut ableOf
        rw [hd, hok, hM, hra]
        rfl
      have HNM : Hid (∀ w1, Calls Try.prog 26 #[.string name] w1 fun e w' => e = .returned (.bool true) ∧ w' = w1) := fun w1 => by have := rname_any name w1 hn; rw [hok] at this; exact this
      have HFIND : Hid (∀ w1, Below w.heap.size w w1 → Calls Try.prog 67 #[.agg #[.slice fa D.rs.length fc, .int .i64 D.a.room, .slice la (flen D.a.fall) lc, .int .i64 D.a.changes, .bool false], .string name] w1 fun e w' => e = .returned (.tuple #[.int .i64 (place RF.nm name.data.toList D.rs : Nat), .bool (seek RF.nm name.data.toList D.rs).isSome]) ∧ Below w1.heap.size w1 w') := fun w1 hb => by
        have := rfind_any K D name w1 (h.below hb)
        unfold RD.v RD.cs at this
        rw [hfv, hlv, hd] at this
        exact this
      have HBYTES : Hid (∀ w1, Below w.heap.size w w1 → Calls Try.prog 36 #[.agg #[.string ⟨r.a.name.toArray⟩, .string ⟨r.a.sure.toArray⟩, .bool r.a.settled, .slice pa r.a.puts.length pc]] w1 fun e w' => e = .returned (.string ⟨r.a.bytes.toArray⟩) ∧ Below w1.heap.size w1 w') := fun w1 hb => by
        have := rbytes_any r w1 (Sees.below hrp hb) (by omega) (hrs.after (by omega))
        unfold RF.v RF.cs txt at this
        rw [hpv] at this
        exact this
      have HSIZE : Hid (∀ w1, Below w.heap.size w w1 → Calls Try.prog 34 #[.agg #[.slice fa D.rs.length fc, .int .i64 D.a.room, .slice la (flen D.a.fall) lc, .int .i64 D.a.changes, .bool false]] w1 fun e w' => e = .returned (.int .i64 (total D.a.files)) ∧ Below w1.heap.size w1 w') := fun w1 hb => by
        have := rsize_any K D w1 (h.below hb)
        unfold RD.v RD.cs at this
        rw [hfv, hlv, hd] at this
        exact this
      have htot : total D.a.files ≤ 1000000000000 := by
        have := (h.total_le D.a.files.length).1
        rwa [List.take_length] at this
      have HV : D.v = .agg #[.slice fa D.rs.length fc, .int .i64 D.a.room, .slice la (flen D.a.fall) lc, .int .i64 D.a.changes, .bool false] := by unfold RD.v RD.cs; rw [hfv, hlv, hd]
      have HSTRIKE : Hid (∀ w1, Below w.heap.size w w1 → Calls Try.prog 68 #[.agg #[.slice fa D.rs.length fc, .int .i64 D.a.room, .slice la (flen D.a.fall) lc, .int .i64 D.a.changes, .bool false]] w1 fun e w' => ∃ D' : RD, e = .returned (.tuple #[D'.v, .int .i64 D.a.struck.2]) ∧ D'.a = D.a.struck.1 ∧ RefAt (K + 1) w' D' ∧ Below w1.heap.size w1 w' ∧ (D.a.hit = none → D'.v = .agg #[.slice fa D.rs.length fc, .int .i64 D.a.room, .slice la (flen D.a.fall) lc, .int .i64 ((D.a.changes : Int) + 1), .bool false])) := fun w1 hb => by
        rw [← HV]
        refine (rstrike_any K D w1 (h.below hb) hK1).mono ?_
        rintro e w' ⟨D', he, ha, hr', hb', hc⟩
        refine ⟨D', he, ha, hr', hb', fun hit => ?_⟩
        rw [hc hit]
        unfold RD.v RD.cs
        rw [← hfv, ← hlv, ← hd]
        rfl
      have HWITH : Hid (∀ w1 v, Below w.heap.size w w1 → PutsV w1 v (r.a.puts ++ [⟨s.data.toList, whole⟩]) → Calls Try.prog 69 #[.agg #[.slice fa D.rs.length fc, .int .i64 D.a.room, .slice la (flen D.a.fall) lc, .int .i64 ((D.a.changes : Int) + 1), .bool false], .agg #[.string ⟨r.a.name.toArray⟩, .string ⟨r.a.sure.toArray⟩, .bool r.a.settled, v]] w1 fun e w' => ∃ D' : RD, e = .returned D'.v ∧ D'.a = D.a.puts r.a ⟨s.data.toList, whole⟩ ∧ RefAt (K + 1) w' D' ∧ Below w1.heap.size w1 w') := fun w1 v hb hv => by
        have h' := (h.below hb).mono (Nat.le_succ K) hK1
        have h1 : RefAt (K + 1) w1 ⟨{ D.a with changes := D.a.changes + 1 }, D.fv, D.lv, D.rs⟩ := ⟨h'.files, h'.puts, h'.same, h'.falls, h'.rises, h'.small, h'.count, Nat.succ_le_succ h.chg, hK1⟩
        have := rwith_any (K + 1) _ ⟨r.a.put ⟨s.data.toList, whole⟩, v⟩ w1 h1 hv (hrs.put _ (by show s.data.toList.length ≤ 100; rw [Array.length_toList]; exact hs)) (Nat.lt_succ_of_le h.count)
        unfold RD.v RD.cs RF.v RF.cs txt at this
        rw [show (RD.mk { D.a with changes := D.a.changes + 1 } D.fv D.lv D.rs).fv = .slice fa D.rs.length fc from hfv, show (RD.mk { D.a with changes := D.a.changes + 1 } D.fv D.lv D.rs).lv = .slice la (flen D.a.fall) lc from hlv, show (RD.mk { D.a with changes := D.a.changes + 1 } D.fv D.lv D.rs).a.down = false from hd] at this
        refine this.mono ?_
        rintro e w' ⟨fv, he, hr', hb'⟩
        exact ⟨_, he, rfl, hr', hb'⟩
      have HFULL : Hid (holdsOf D.a M = false → ∀ w', Below w.heap.size w w' → ∃ D' : RD, Ending.returned (.tuple #[.agg #[.slice fa D.rs.length fc, .int .i64 D.a.room, .slice la (flen D.a.fall) lc, .int .i64 D.a.changes, .bool false], .int .i64 61]) = .returned (.tuple #[D'.v, .int .i64 (D.a.doPut name.data.toList ⟨s.data.toList, whole⟩).2]) ∧ D'.a = (D.a.doPut name.data.toList ⟨s.data.toList, whole⟩).1 ∧ RefAt (K + 1) w' D' ∧ Below w.heap.size w w') := fun hh w' hb => by
        rw [hd] at HSAME
        exact HSAME.out w' 61 hb (by rw [hdo, if_pos hh])
      have HHIT : Hid (holdsOf D.a M = true → ∀ f, D.a.hit = some f → ∀ w' (D' : RD), D'.a = D.a.struck.1 → RefAt (K + 1) w' D' → Below w.heap.size w w' → ∃ D'' : RD, Ending.returned (.tuple #[D'.v, .int .i64 D.a.struck.2]) = .returned (.tuple #[D''.v, .int .i64 (D.a.doPut name.data.toList ⟨s.data.toList, whole⟩).2]) ∧ D''.a = (D.a.doPut name.data.toList ⟨s.data.toList, whole⟩).1 ∧ RefAt (K + 1) w' D'' ∧ Below w.heap.size w w') := fun hh f hit w' D' ha hr' hb => by
        refine ⟨D', ?_, ?_, hr', hb⟩
        · rw [hdo, if_neg (by simp [hh])]
          unfold A.struck A.change
          rw [hit]
        · rw [hdo, if_neg (by simp [hh]), ha]
          unfold A.struck A.change
          rw [hit]
      have HDONE : Hid (holdsOf D.a M = true → D.a.hit = none → ∀ w' (D' : RD), D'.a = D.a.puts r.a ⟨s.data.toList, whole⟩ → RefAt (K + 1) w' D' → Below w.heap.size w w' → ∃ D'' : RD, Ending.returned (.tuple #[D'.v, .int .i64 0]) = .returned (.tuple #[D''.v, .int .i64 (D.a.doPut name.data.toList ⟨s.data.toList, whole⟩).2]) ∧ D''.a = (D.a.doPut name.data.toList ⟨s.data.toList, whole⟩).1 ∧ RefAt (K + 1) w' D'' ∧ Below w.heap.size w w') := fun hh hit w' D' ha hr' hb => by
        refine ⟨D', ?_, ?_, hr', hb⟩
        · rw [hdo, if_neg (by simp [hh])]
          unfold A.change
          rw [hit]
        · rw [hdo, if_neg (by simp [hh]), ha]
          unfold A.change
          rw [hit]
      have HSTR : Hid ((D.a.hit = none → D.a.struck.2 = 0) ∧ ∀ f, D.a.hit = some f → D.a.struck.2 = 7) := ⟨fun e => by unfold A.struck; rw [e], fun f e => by unfold A.struck; rw [e]⟩
      have hfiles := h.files
      have hrises := h.rises
      have hputs := h.puts
      clear HSAME h HV
      generalize hX : (fun (e : Ending) (w' : World) => ∃ D' : RD, e = .returned (.tuple #[D'.v, .int .i64 (D.a.doPut name.data.toList ⟨s.data.toList, whole⟩).2]) ∧ D'.a = (D.a.doPut name.data.toList ⟨s.data.toList, whole⟩).1 ∧ RefAt (K + 1) w' D' ∧ Below w.heap.size w w') = X
      replace HFULL : Hid (holdsOf D.a M = false → ∀ w', Below w.heap.size w w' → X (.returned (.tuple #[.agg #[.slice fa D.rs.length fc, .int .i64 D.a.room, .slice la (flen D.a.fall) lc, .int .i64 D.a.changes, .bool false], .int .i64 61])) w') := by rw [← hX]; exact HFULL
      replace HHIT : Hid (holdsOf D.a M = true → ∀ f, D.a.hit = some f → ∀ w' (D' : RD), D'.a = D.a.struck.1 → RefAt (K + 1) w' D' → Below w.heap.size w w' → X (.returned (.tuple #[D'.v, .int .i64 D.a.struck.2])) w') := by rw [← hX]; exact HHIT
      replace HDONE : Hid (holdsOf D.a M = true → D.a.hit = none → ∀ w' (D' : RD), D'.a = D.a.puts r.a ⟨s.data.toList, whole⟩ → RefAt (K + 1) w' D' → Below w.heap.size w w' → X (.returned (.tuple #[D'.v, .int .i64 0])) w') := by rw [← hX]; exact HDONE
      clear hX hdo
      unfold RD.v RD.cs
      unfold RD.v RD.cs at HSTRIKE HWITH HHIT HDONE
      rw [hfv, hlv, hd]
      generalize hpl' : place RF.nm name.data.toList D.rs = pl at *
      go_enter Try.func54, Try.ntmps54
      go_upto_if 28 with (first
        | (go_at_call 26; refine (HNM.out _).mono ?_; rintro e w' ⟨rfl, rfl⟩)
        | (go_at_call 67; refine (HFIND.out _ (three_below (Below.refl _ _)).2.2.2).mono ?_; rintro e w1 ⟨rfl, k1⟩; obtain ⟨x3, x5, x6, kb⟩ := three_below k1; obtain ⟨c0, c1, c2, c3, c4⟩ := cells5 x3))
      have HB3 : Hid (w.heap.size + 2 < w1.heap.size) := block_lt x6
      go_cut [9] from 13 to 80 (fun _ wx => Hid (wx.heap[w.heap.size]? = some (.cells #[.slice fa D.rs.length fc, .int .i64 D.a.room, .slice la (flen D.a.fall) lc, .int .i64 D.a.changes, .bool false] 27 (0, 0)) ∧ wx.heap[w.heap.size + 1]? = some (.cells #[.string s, .bool whole] 91 (0, 0)) ∧ wx.heap[w.heap.size + 2]? = some (.cells #[Value.slice none 0 0, Value.int IntKind.i64 0, Value.slice none 0 0, Value.int IntKind.i64 0, Value.bool false] 27 (0, 0)) ∧ wx.heap[w1.heap.size]? = some (.cells #[.string ⟨r.a.name.toArray⟩, .string ⟨r.a.sure.toArray⟩, .bool r.a.settled, .slice pa r.a.puts.length pc] 52 (0, 0)) ∧ Below w.heap.size w wx))
      case first =>
        cases hsk : seek RF.nm name.data.toList D.rs with
        | none =>
          have hr0 : r = ⟨⟨name.data.toList, [], false, []⟩, .slice none 0 0⟩ := by rw [hr]; unfold RD.fileOf; rw [hsk]; rfl
          have kx : Below w1.heap.size w1 (w1.alloc (.cells #[.string name, .string ⟨#[]⟩, .bool false, .slice none 0 0] 52)) := (Below.refl _ _).alloc (Nat.le_refl _) _
          have HR : Hid ((w1.alloc (.cells #[.string name, .string ⟨#[]⟩, .bool false, .slice none 0 0] 52)).heap[w1.heap.size]? = some (.cells #[.string ⟨r.a.name.toArray⟩, .string ⟨r.a.sure.toArray⟩, .bool r.a.settled, .slice pa r.a.puts.length pc] 52 (0, 0))) := by
            rw [Hid, heap_alloc_new]
            subst hr0
            cases hpv
            rfl
          have HROW := hide (And.intro (row_kept x3 kx) (And.intro (row_kept x5 kx) (And.intro (row_kept x6 kx) (And.intro HR.out (kb.trans (kx.mono kb.size))))))
          simp only [Option.isSome_none]
          clear hr hr0 hpv HR kx hsk k1
          go_wp2
          go_meet
          exact HROW
        | some r0 =>
          have hr0 : r = r0 := by rw [hr]; unfold RD.fileOf; rw [hsk]; rfl
          subst hr0
          obtain ⟨hat, hatl⟩ := place_seek hrises hsk
          rw [hpl'] at hat hatl
          obtain ⟨b, off, cap, hv, hcap, hbw, d0, d1, d2, d3⟩ := hfiles.file hat
          rw [hfv] at hv
          cases hv
          have ky : Below w1.heap.size w1 (w1.alloc (.cells #[.string name, .string ⟨#[]⟩, .bool false, .slice none 0 0] 52)) := (Below.refl _ _).alloc (Nat.le_refl _) _
          have e : ∀ k u, w.cell? ⟨b, k, none⟩ = some u → (w1.alloc (.cells #[.string name, .string ⟨#[]⟩, .bool false, .slice none 0 0] 52)).cell? ⟨b, k, none⟩ = some u := fun k u hu => ((kb.trans (ky.mono kb.size)).cell (p := ⟨b, k, none⟩) hbw).trans hu
          have c0' := (ky.cell (p := ⟨w.heap.size, 0, none⟩) (block_lt x3)).trans c0
          have q0 := e _ _ d0
          have q1 := e _ _ d1
          have q2 := e _ _ d2
          have q3 := e _ _ d3
          rw [hpv] at q3
          unfold txt at q0 q1
          have hbz : b < w1.heap.size := Nat.lt_of_lt_of_le hbw kb.size
          have kx : Below w1.heap.size w1 (w1.alloc (.cells #[.string ⟨r.a.name.toArray⟩, .string ⟨r.a.sure.toArray⟩, .bool r.a.settled, .slice pa r.a.puts.length pc] 52)) := (Below.refl _ _).alloc (Nat.le_refl _) _
          have HROW := hide (And.intro (row_kept x3 kx) (And.intro (row_kept x5 kx) (And.intro (row_kept x6 kx) (And.intro (heap_alloc_new w1 (.cells #[.string ⟨r.a.name.toArray⟩, .string ⟨r.a.sure.toArray⟩, .bool r.a.settled, .slice pa r.a.puts.length pc] 52)) (kb.trans (kx.mono kb.size))))))
          simp only [Option.isSome_some]
          clear hpv kx ky hsk k1 e d0 d1 d2 d3 hat hr hra hrn
          go_wp2
          go_meet
          exact HROW
      case rest =>
        clear x3 x5 x6 kb k1 c0 c1 c2 c3 c4 HNM HFIND hfiles hrises hputs hpl' hfv hlv hr hra hrn hok hd
        have HG := hcut
        clear hcut
        obtain ⟨c0, c1, c2, c3, c4⟩ := cells5 HG.out.1
        have g0 := cell_of_row _ _ 0 _ _ _ HG.out.2.1
        have g1 := cell_of_row _ _ 1 _ _ _ HG.out.2.1
        obtain ⟨p0, p1, p2, p3⟩ := cells4 HG.out.2.2.2.1
        simp only [List.getElem?_toArray, List.getElem?_cons_zero, List.getElem?_cons_succ] at g0 g1
        have hbl2 : r.a.bytes.length ≤ 10000000 := by omega
        have hz := txt_size r.a.bytes
        go_upto_if 38 with fail
        go_cut [2, 11] from 13 to 80 (fun _ x wx => x = .int .i64 M ∧ Hid (wx.heap[w.heap.size]? = some (.cells #[.slice fa D.rs.length fc, .int .i64 D.a.room, .slice la (flen D.a.fall) lc, .int .i64 D.a.changes, .bool false] 27 (0, 0)) ∧ wx.heap[w.heap.size + 1]? = some (.cells #[.string s, .bool whole] 91 (0, 0)) ∧ wx.heap[w.heap.size + 2]? = some (.cells #[Value.slice none 0 0, Value.int IntKind.i64 0, Value.slice none 0 0, Value.int IntKind.i64 0, Value.bool false] 27 (0, 0)) ∧ wx.heap[w1.heap.size]? = some (.cells #[.string ⟨r.a.name.toArray⟩, .string ⟨r.a.sure.toArray⟩, .bool r.a.settled, .slice pa r.a.puts.length pc] 52 (0, 0)) ∧ Below w.heap.size w wx))
        case first =>
          rcases (by cases whole <;> simp : whole = true ∨ whole = false) with hw | hw
          · have HMM : Hid (M = (s.size : Int) - r.a.bytes.length) := by rw [Hid, hM, hw, if_pos rfl]; omega
            rw [hw] at g1
            clear hM
            simp only [hw]
            go_wp2_with (go_at_call 36; refine (HBYTES.out _ HG.out.2.2.2.2).mono ?_; rintro e w2 ⟨rfl, k2⟩)
            go_meet
            refine ⟨?_, ?_⟩
            · rw [HMM.out]
            · exact ⟨row_kept HG.out.1 k2, row_kept HG.out.2.1 k2, row_kept HG.out.2.2.1 k2, row_kept HG.out.2.2.2.1 k2, HG.out.2.2.2.2.trans (k2.mono HG.out.2.2.2.2.size)⟩
          · have HMM : Hid (M = (s.size : Int)) := by rw [Hid, hM, hw, if_neg (by decide)]; omega
            rw [hw] at g1
            clear hM
            simp only [hw]
            go_wp2
            go_meet
            rw [HMM.out]
            exact ⟨rfl, HG⟩
        case rest =>
          clear c0 c1 c2 c3 c4 g0 g1 p0 p1 p2 p3 HG HBYTES
          obtain ⟨rfl, HG⟩ := hcut
          have hMb : -10000000 ≤ M ∧ M ≤ 10000000 := by
            rw [hM]
            split <;> omega
          obtain ⟨hMl, hMu⟩ := hMb
          clear hM
          go_upto_region 12 with fail
          go_cut [59] from 13 to 80 (fun x wx => x = .bool (!holdsOf D.a M) ∧ Hid (wx.heap[w.heap.size]? = some (.cells #[.slice fa D.rs.length fc, .int .i64 D.a.room, .slice la (flen D.a.fall) lc, .int .i64 D.a.changes, .bool false] 27 (0, 0)) ∧ wx.heap[w.heap.size + 1]? = some (.cells #[.string s, .bool whole] 91 (0, 0)) ∧ wx.heap[w.heap.size + 2]? = some (.cells #[Value.slice none 0 0, Value.int IntKind.i64 0, Value.slice none 0 0, Value.int IntKind.i64 0, Value.bool false] 27 (0, 0)) ∧ wx.heap[w1.heap.size]? = some (.cells #[.string ⟨r.a.name.toArray⟩, .string ⟨r.a.sure.toArray⟩, .bool r.a.settled, .slice pa r.a.puts.length pc] 52 (0, 0)) ∧ Below w.heap.size w wx))
          case first =>
            obtain ⟨c0, c1, c2, c3, c4⟩ := cells5 HG.out.1
            have e1 := cell_regrown c1
            clear c0 c2 c3 c4
            by_cases hm0 : 0 < M
            · have hm1 : decide ((0 : Int) < M) = true := decide_eq_true hm0
              by_cases hr0 : 0 ≤ D.a.room
              · have hr1 : decide ((0 : Int) ≤ D.a.room) = true := decide_eq_true hr0
                have HE : Hid ((!holdsOf D.a M) = decide (D.a.room - (total D.a.files : Int) < M)) := by
                  unfold holdsOf
                  rw [Hid, hr1, decide_eq_false (by omega : ¬ M ≤ 0)]
                  by_cases hx : (total D.a.files : Int) + M ≤ D.a.room
                  · rw [decide_eq_true hx, decide_eq_false (by omega)]; rfl
                  · rw [decide_eq_false hx, decide_eq_true (by omega)]; rfl
                refine QuietCalls.region (by kernel_rfl) (by kernel_rfl) ?_
                iterate 11 (first | go_big_quiet_step (fail) | quiet_step (fail))
                refine QuietCalls.load rfl 27 (.tmp 3) rfl _ rfl 27 _ (0, 0) _ HG.out.1 Try.underlying27 rfl infoDisk ?_; simp only [Act.put, List.setIfInBounds_toArray, List.set_cons_succ, List.set_cons_zero]
                refine QuietCalls.call1 rfl rfl Try.call34 (fun w' hb => HSIZE.out w' (HG.out.2.2.2.2.trans (hb.mono HG.out.2.2.2.2.size))) rfl ?_; simp only [Act.put, List.setIfInBounds_toArray, List.set_cons_succ, List.set_cons_zero]
                iterate 3 (first | go_big_quiet_step (fail) | quiet_step (fail))
                refine wpQuiet_nil ?_
                intro w2 k
                go_wp2
                go_meet
                exact ⟨by rw [HE.out], row_kept HG.out.1 k, row_kept HG.out.2.1 k, row_kept HG.out.2.2.1 k, row_kept HG.out.2.2.2.1 k, HG.out.2.2.2.2.trans (k.mono HG.out.2.2.2.2.size)⟩
              · have hr1 : decide ((0 : Int) ≤ D.a.room) = false := decide_eq_false hr0
                have HE : Hid ((!holdsOf D.a M) = false) := by
                  unfold holdsOf
                  rw [Hid, hr1]
                  rfl
                clear hr0
                go_quiet (fail)
                go_wp2
                go_meet
                exact ⟨by rw [HE.out], HG.out.1, HG.out.2.1, HG.out.2.2.1, HG.out.2.2.2.1, HG.out.2.2.2.2.trans ⟨rfl, rfl, rfl, Nat.le_refl _, fun _ _ => rfl⟩⟩
            · have hm1 : decide ((0 : Int) < M) = false := decide_eq_false hm0
              have HE : Hid ((!holdsOf D.a M) = false) := by
                unfold holdsOf
                rw [Hid, decide_eq_true (by omega : M ≤ 0)]
                simp
              clear hm0
              go_quiet (fail)
              go_wp2
              go_meet
              exact ⟨by rw [HE.out], HG.out.1, HG.out.2.1, HG.out.2.2.1, HG.out.2.2.2.1, HG.out.2.2.2.2.trans ⟨rfl, rfl, rfl, Nat.le_refl _, fun _ _ => rfl⟩⟩
          case rest =>
            clear HG HSIZE
            obtain ⟨rfl, HG⟩ := hcut
            obtain ⟨c0, c1, c2, c3, c4⟩ := cells5 HG.out.1
            obtain ⟨f0, f1, f2, f3, f4⟩ := frozen5 HG.out.1
            obtain ⟨d0, d1, d2, d3, d4⟩ := cells5 HG.out.2.2.1
            obtain ⟨e0, e1, e2, e3, e4⟩ := frozen5 HG.out.2.2.1
            cases hh : holdsOf D.a M with
            | false =>
              replace HFULL := hide (HFULL.out hh)
              clear HHIT HDONE HSTRIKE HWITH
              simp only [Bool.not_false]
              go_wp2
              exact bodyPost_ret (results_cell2_row Try.results54 _ _ _ 27 _ (0, 0) _ rfl (set5 HG.out.2.2.1 _ _ _ _ _) Try.underlying27 rfl infoDisk) rfl (HFULL.out _ (below5 HG.out.2.2.2.2 (Nat.le_add_right _ 2) _ _ _ _ _))
            | true =>
              simp only [Bool.not_true]
              cases hit : D.a.hit with
              | some f =>
                replace HHIT := hide (HHIT.out hh f hit)
                have hst := HSTR.out.2 f hit
                rw [hst] at HSTRIKE HHIT
                clear HFULL HDONE HWITH
                go_wp2_with (go_at_call 68; refine (HSTRIKE.out _ HG.out.2.2.2.2).mono ?_; rintro e w2 ⟨D', rfl, ha, hr', k2, -⟩; obtain ⟨fa', fc', hfv'⟩ := Sees.form hr'.files; obtain ⟨la', lc', hlv'⟩ := Sees.form hr'.falls; have z3 := row_kept HG.out.1 k2; have z6 := row_kept HG.out.2.2.1 k2; obtain ⟨c0, c1, c2, c3, c4⟩ := cells5 z3; obtain ⟨f0, f1, f2, f3, f4⟩ := frozen5 z3; obtain ⟨d0, d1, d2, d3, d4⟩ := cells5 z6; obtain ⟨e0, e1, e2, e3, e4⟩ := frozen5 z6; have HZ := hide (And.intro z3 (And.intro z6 (And.intro (HG.out.2.2.2.2.trans (k2.mono HG.out.2.2.2.2.size)) (And.intro ha hr')))); clear z3 z6 k2 ha hr')
                have z6 := set5_kept HZ.out.2.1 (by omega : w.heap.size + 2 ≠ w.heap.size) (Value.slice fa' D'.rs.length fc') (.int .i64 D'.a.room) (.slice la' (flen D'.a.fall) lc') (.int .i64 D'.a.changes) (.bool D'.a.down)
                have zb := below5 HZ.out.2.2.1 (Nat.le_refl _) (Value.slice fa' D'.rs.length fc') (.int .i64 D'.a.room) (.slice la' (flen D'.a.fall) lc') (.int .i64 D'.a.changes) (.bool D'.a.down)
                have zr := RefAt.set5 HZ.out.2.2.2.2 HZ.out.1 (Value.slice fa' D'.rs.length fc') (.int .i64 D'.a.room) (.slice la' (flen D'.a.fall) lc') (.int .i64 D'.a.changes) (.bool D'.a.down)
                refine bodyPost_ret (results_cell2_row Try.results54 _ _ _ 27 _ (0, 0) _ rfl (set5 z6 _ _ _ _ _) Try.underlying27 rfl infoDisk) rfl ?_
                have := HHIT.out _ D' HZ.out.2.2.2.1 (RefAt.set5 zr z6 (Value.slice fa' D'.rs.length fc') (.int .i64 D'.a.room) (.slice la' (flen D'.a.fall) lc') (.int .i64 D'.a.changes) (.bool D'.a.down)) (below5 zb (Nat.le_add_right _ 2) _ _ _ _ _)
                rw [hfv', hlv'] at this
                exact this
              | none =>
                replace HDONE := hide (HDONE.out hh hit)
                have hst := HSTR.out.1 hit
                rw [hst] at HSTRIKE
                clear HFULL HHIT
                go_upto_region 17 with (go_at_call 68; refine (HSTRIKE.out _ HG.out.2.2.2.2).mono ?_; rintro e w2 ⟨D', rfl, ha, hr', k2, hdv⟩; rw [hdv hit]; have z3 := row_kept HG.out.1 k2; obtain ⟨c0, c1, c2, c3, c4⟩ := cells5 z3; obtain ⟨f0, f1, f2, f3, f4⟩ := frozen5 z3; have HZ := hide (And.intro z3 (And.intro (row_kept HG.out.2.1 k2) (And.intro (row_kept HG.out.2.2.1 k2) (And.intro (row_kept HG.out.2.2.2.1 k2) (HG.out.2.2.2.2.trans (k2.mono HG.out.2.2.2.2.size)))))); clear z3 k2 ha hr' hdv)
                obtain ⟨tinfo, hti, htz, hts, htb⟩ := info91_ex
                have HTI := hide (And.intro hti (And.intro htz (And.intro hts htb)))
                clear hti htz hts htb
                obtain ⟨W, hW⟩ : ∃ x, x = ((((w2.setCell ⟨w.heap.size, 0, none⟩ (.slice fa D.rs.length fc)).setCell ⟨w.heap.size, 1, none⟩ (.int .i64 D.a.room)).setCell ⟨w.heap.size, 2, none⟩ (.slice la (flen D.a.fall) lc)).setCell ⟨w.heap.size, 3, none⟩ (.int .i64 ((D.a.changes : Int) + 1))).setCell ⟨w.heap.size, 4, none⟩ (.bool false) := ⟨_, rfl⟩
                rw [← hW]
                have hne2 : w.heap.size + 2 < w1.heap.size := HB3.out
                have HROWS : Hid (W.heap[w.heap.size]? = some (.cells #[.slice fa D.rs.length fc, .int .i64 D.a.room, .slice la (flen D.a.fall) lc, .int .i64 ((D.a.changes : Int) + 1), .bool false] 27 (0, 0)) ∧ W.heap[w.heap.size + 1]? = some (.cells #[.string s, .bool whole] 91 (0, 0)) ∧ W.heap[w.heap.size + 2]? = some (.cells #[Value.slice none 0 0, Value.int IntKind.i64 0, Value.slice none 0 0, Value.int IntKind.i64 0, Value.bool false] 27 (0, 0)) ∧ W.heap[w1.heap.size]? = some (.cells #[.string ⟨r.a.name.toArray⟩, .string ⟨r.a.sure.toArray⟩, .bool r.a.settled, .slice pa r.a.puts.length pc] 52 (0, 0)) ∧ Below w.heap.size w W) := by
                  rw [hW]
                  exact ⟨set5 HZ.out.1 _ _ _ _ _, set5_kept HZ.out.2.1 (by omega) _ _ _ _ _, set5_kept HZ.out.2.2.1 (by omega) _ _ _ _ _, set5_kept HZ.out.2.2.2.1 (by omega) _ _ _ _ _, below5 HZ.out.2.2.2.2 (Nat.le_refl _) _ _ _ _ _⟩
                clear hW
                have hd0 : w1.heap.size < W.heap.size := block_lt HROWS.out.2.2.2.1
                have HH : Hid (∀ x, Below W.heap.size W x → RegionOwn.Holds x (.slice pa r.a.puts.length pc) 2 r.a.puts.length (r.a.puts.flatMap pcells)) := fun x hx => by
                  have h1 := Sees.below hrp (HROWS.out.2.2.2.2.trans (hx.mono HROWS.out.2.2.2.2.size))
                  rw [hpv] at h1
                  exact holds_of_sees h1
                have HONE : Hid (∀ u ∈ r.a.puts.flatMap pcells, u.oneCell' = true) := fun u hu => by
                  obtain ⟨p, _, hu⟩ := List.mem_flatMap.1 hu
                  simp only [pcells, List.mem_cons, List.not_mem_nil, or_false] at hu
                  rcases hu with rfl | rfl <;> rfl
                clear HZ HG c0 c1 c2 c3 c4 f0 f1 f2 f3 f4 d0 d1 d2 d3 d4 e0 e1 e2 e3 e4
                go_cut [] from 13 to 80 (fun wx => Hid (∃ v, wx.heap[w.heap.size]? = some (.cells #[.slice fa D.rs.length fc, .int .i64 D.a.room, .slice la (flen D.a.fall) lc, .int .i64 ((D.a.changes : Int) + 1), .bool false] 27 (0, 0)) ∧ wx.heap[w.heap.size + 2]? = some (.cells #[Value.slice none 0 0, Value.int IntKind.i64 0, Value.slice none 0 0, Value.int IntKind.i64 0, Value.bool false] 27 (0, 0)) ∧ wx.heap[w1.heap.size]? = some (.cells #[.string ⟨r.a.name.toArray⟩, .string ⟨r.a.sure.toArray⟩, .bool r.a.settled, v] 52 (0, 0)) ∧ Below w.heap.size w wx ∧ wx.ownsRow W.heap.size 91 2 v (r.a.puts.length + 1) (r.a.puts.flatMap pcells ++ [.string s, .bool whole])))
                case rest =>
                  obtain ⟨v, y3, y6, y10, yb, yo⟩ := hcut.out
                  obtain ⟨va, vc, hv'⟩ := RegionOwn.own_form yo
                  have HP : Hid (PutsV wc v (r.a.puts ++ [⟨s.data.toList, whole⟩])) := by
                    have := Sees.of_own yo
                    unfold PutsV
                    rw [List.length_append, List.flatMap_append]
                    exact this
                  rw [hv'] at y10 HP
                  obtain ⟨c0, c1, c2, c3, c4⟩ := cells5 y3
                  obtain ⟨p0, p1, p2, p3⟩ := cells4 y10
                  have HY := hide (And.intro y6 yb)
                  clear hcut yo y3 y6 y10 yb
                  go_wp2_with (go_at_call 69; refine (HWITH.out _ _ HY.out.2 HP.out).mono ?_; rintro e w3 ⟨D', rfl, ha, hr', k3⟩; obtain ⟨fa', fc', hfv'⟩ := Sees.form hr'.files; obtain ⟨la', lc', hlv'⟩ := Sees.form hr'.falls; have z6 := row_kept HY.out.1 k3; obtain ⟨d0, d1, d2, d3, d4⟩ := cells5 z6; obtain ⟨e0, e1, e2, e3, e4⟩ := frozen5 z6; have HQ := hide (And.intro z6 (And.intro (HY.out.2.trans (k3.mono HY.out.2.size)) (And.intro ha hr'))); clear z6 k3 ha hr')
                  refine bodyPost_ret (results_cell2_row Try.results54 _ _ _ 27 _ (0, 0) _ rfl (set5 HQ.out.1 _ _ _ _ _) Try.underlying27 rfl infoDisk) rfl ?_
                  have := HDONE.out _ D' HQ.out.2.2.1 (RefAt.set5 HQ.out.2.2.2 HQ.out.1 (Value.slice fa' D'.rs.length fc') (.int .i64 D'.a.room) (.slice la' (flen D'.a.fall) lc') (.int .i64 D'.a.changes) (.bool D'.a.down)) (below5 HQ.out.2.1 (Nat.le_add_right _ 2) _ _ _ _ _)
                  rw [hfv', hlv'] at this
                  exact this
                case first =>
                  rename_i J K' hJ hK'
                  refine RegionOwn.regionK 8 81 91 2 (fun i => match i with
                    | 0 => RegionOwn.row 0 [] 3
                    | 1 => RegionOwn.val (.pointer (some ⟨w1.heap.size, 3, none⟩))
                    | 2 => RegionOwn.val (.slice pa r.a.puts.length pc)
                    | 3 => RegionOwn.row r.a.puts.length (r.a.puts.flatMap pcells) 6
                    | 4 => RegionOwn.val (.agg #[.string s, .bool whole])
                    | 5 => RegionOwn.row 1 [.string s, .bool whole] 6
                    | 6 => RegionOwn.row (r.a.puts.length + 1) (r.a.puts.flatMap pcells ++ [.string s, .bool whole]) 8
                    | 7 => RegionOwn.val (.pointer (some ⟨w1.heap.size, 3, none⟩))
                    | _ => RegionOwn.val undef) (fun i => match i with | 0 => some 3 | 3 => some 6 | 5 => some 6 | 6 => some 8 | _ => none) ?_ (by kernel_rfl) rfl (by kernel_rfl) ?_ ?_ ?_
                  · intro i hi
                    match i, hi with
                    | 0, _ | 1, _ | 2, _ | 3, _ | 4, _ | 5, _ | 6, _ | 7, _ => rfl
                    | i + 8, h => exact absurd h (by omega)
                  · intro i p hi h
                    match i, hi, h with
                    | 0, _, h | 1, _, h | 2, _, h | 3, _, h | 4, _, h | 5, _, h | 6, _, h | 7, _, h => cases h
                    | i + 8, h, _ => exact absurd h (by omega)
                  · intro i hi y x hfr hbx hD K hK
                    have e10 : RegionOwn.T y 10 = .pointer (some ⟨w1.heap.size, 0, none⟩) := hfr.at (by kernel_rfl) rfl
                    have e5 : RegionOwn.T y 5 = .pointer (some ⟨w.heap.size + 1, 0, none⟩) := hfr.at (by kernel_rfl) rfl
                    have hsz := hbx.size
                    match i, hi with
                    | 0, _ =>
                      refine RegionOwn.made (ob := .cells #[] 91) (v := .slice (some ⟨x.heap.size, 0, none⟩) 0 0) rfl rfl hK (World.ownsRow_made x #[] 0 hsz (Nat.zero_le _) rfl) (fun g h => by simp [Value.ownBlock] at h; omega) ?_
                      clear hK hD hfr
                      go_simp
                    | 1, _ =>
                      refine RegionOwn.quiet rfl rfl hK rfl rfl ?_
                      clear hK hD hfr
                      unfold RegionOwn.T at e10
                      go_simp
                    | 2, _ =>
                      refine RegionOwn.quiet rfl rfl hK rfl rfl ?_
                      have q : RegionOwn.T y 71 = .pointer (some ⟨w1.heap.size, 3, none⟩) := hD 1 71 (by decide) rfl (by kernel_rfl) (.inl rfl)
                      obtain ⟨_, _, _, p3⟩ := cells4 (row_kept HROWS.out.2.2.2.1 hbx)
                      clear hK hD hfr
                      unfold RegionOwn.T at q
                      go_simp
                    | 3, _ =>
                      have q : x.ownsRow W.heap.size 91 2 (RegionOwn.T y 70) 0 [] := hD 0 70 (by decide) rfl (by kernel_rfl) (.inr rfl)
                      have q1 : RegionOwn.T y 72 = .slice pa r.a.puts.length pc := hD 2 72 (by decide) rfl (by kernel_rfl) (.inl rfl)
                      refine RegionOwn.appended (j := 0) (k := r.a.puts.length) (ys := r.a.puts.flatMap pcells) rfl rfl hK rfl tinfo _ 2 24 Try.underlying50 HTI.out.1 HTI.out.2.1 HTI.out.2.2.1 HTI.out.2.2.2 rfl (by decide) (by decide) rfl rfl q hsz (by rw [q1]; exact HH.out x hbx) (HONE.out) (by simp only [maxLen]; omega) (by omega) fun v z hz => ?_
                      rw [Nat.zero_add] at hz
                      exact hz
                    | 4, _ =>
                      refine RegionOwn.quiet rfl rfl hK rfl rfl ?_
                      have xr := row_kept HROWS.out.2.1 hbx
                      have g0 := cell_of_row _ _ 0 _ _ _ xr
                      have g1 := cell_of_row _ _ 1 _ _ _ xr
                      simp only [List.getElem?_toArray, List.getElem?_cons_zero, List.getElem?_cons_succ] at g0 g1
                      clear hK hD hfr xr
                      unfold RegionOwn.T at e5
                      go_simp
                    | 5, _ =>
                      have q : RegionOwn.T y 74 = .agg #[.string s, .bool whole] := hD 4 74 (by decide) rfl (by kernel_rfl) (.inl rfl)
                      refine RegionOwn.made (ob := .cells #[.string s, .bool whole] 91) (v := .slice (some ⟨x.heap.size, 0, none⟩) 1 1) rfl rfl hK (RegionOwn.made_one x _ 91 2 #[.string s, .bool whole] hsz rfl) (fun g h => by simp [Value.ownBlock] at h; omega) ?_
                      clear hK hD hfr
                      unfold RegionOwn.T at q
                      have q' := q
                      rw [Array.getD_eq_getD_getElem?] at q'
                      go_simp
                    | 6, _ =>
                      have q : x.ownsRow W.heap.size 91 2 (RegionOwn.T y 73) r.a.puts.length (r.a.puts.flatMap pcells) := hD 3 73 (by decide) rfl (by kernel_rfl) (.inr rfl)
                      have q1 : x.ownsRow W.heap.size 91 2 (RegionOwn.T y 75) 1 [.string s, .bool whole] := hD 5 75 (by decide) rfl (by kernel_rfl) (.inr rfl)
                      exact RegionOwn.appended (j := 3) (k := 1) (ys := [.string s, .bool whole]) rfl rfl hK rfl tinfo _ 2 24 Try.underlying50 HTI.out.1 HTI.out.2.1 HTI.out.2.2.1 HTI.out.2.2.2 rfl (by decide) (by decide) rfl rfl q hsz (.of_own q1) (by simp [Value.oneCell']) (by simp only [maxLen]; omega) (by omega) fun v z hz => hz
                    | 7, _ =>
                      refine RegionOwn.quiet rfl rfl hK rfl rfl ?_
                      clear hK hD hfr
                      unfold RegionOwn.T at e10
                      go_simp
                    | i + 8, h => exact absurd h (by omega)
                  · intro y x hfr hbx hD
                    have q : x.ownsRow W.heap.size 91 2 (RegionOwn.T y 76) (r.a.puts.length + 1) (r.a.puts.flatMap pcells ++ [.string s, .bool whole]) := hD 6 76 (by decide) rfl (fun i hi e => by cases e; omega)
                    have q1 : RegionOwn.T y 77 = .pointer (some ⟨w1.heap.size, 3, none⟩) := hD 7 77 (by decide) rfl (fun i hi e => by cases e)
                    obtain ⟨va, vc, hv'⟩ := RegionOwn.own_form q
                    have xr := row_kept HROWS.out.2.2.2.1 hbx
                    obtain ⟨_, _, _, p3⟩ := cells4 xr
                    have f3 : x.frozen? ⟨w1.heap.size, 3, none⟩ = false := frozen_of_row _ _ _ _ _ xr
                    refine RegionOwn.list_skip (y := x.setCell ⟨w1.heap.size, 3, none⟩ (RegionOwn.T y 76)) rfl ?_ ?_
                    · rw [hv']
                      clear hD hfr q xr hJ hK'
                      unfold RegionOwn.T at q1 hv'
                      go_simp
                    · refine hK' _ _ (Met.intro (hJ _ _ ?_))
                      (repeat apply Exists.intro)
                      refine ⟨?rel, ?eq⟩
                      case eq =>
                        refine (RegionOwn.act_lit y 81 hfr.size).trans ?_
                        show Act.mk (List.toArray [RegionOwn.T y 0, RegionOwn.T y 1, RegionOwn.T y 2, RegionOwn.T y 3, RegionOwn.T y 4, RegionOwn.T y 5, RegionOwn.T y 6, RegionOwn.T y 7, RegionOwn.T y 8, RegionOwn.T y 9, RegionOwn.T y 10, RegionOwn.T y 11, RegionOwn.T y 12, RegionOwn.T y 13, RegionOwn.T y 14, RegionOwn.T y 15, RegionOwn.T y 16, RegionOwn.T y 17, RegionOwn.T y 18, RegionOwn.T y 19, RegionOwn.T y 20, RegionOwn.T y 21, RegionOwn.T y 22, RegionOwn.T y 23, RegionOwn.T y 24, RegionOwn.T y 25, RegionOwn.T y 26, RegionOwn.T y 27, RegionOwn.T y 28, RegionOwn.T y 29, RegionOwn.T y 30, RegionOwn.T y 31, RegionOwn.T y 32, RegionOwn.T y 33, RegionOwn.T y 34, RegionOwn.T y 35, RegionOwn.T y 36, RegionOwn.T y 37, RegionOwn.T y 38, RegionOwn.T y 39, RegionOwn.T y 40, RegionOwn.T y 41, RegionOwn.T y 42, RegionOwn.T y 43, RegionOwn.T y 44, RegionOwn.T y 45, RegionOwn.T y 46, RegionOwn.T y 47, RegionOwn.T y 48, RegionOwn.T y 49, RegionOwn.T y 50, RegionOwn.T y 51, RegionOwn.T y 52, RegionOwn.T y 53, RegionOwn.T y 54, RegionOwn.T y 55, RegionOwn.T y 56, RegionOwn.T y 57, RegionOwn.T y 58, RegionOwn.T y 59, RegionOwn.T y 60, RegionOwn.T y 61, RegionOwn.T y 62, RegionOwn.T y 63, RegionOwn.T y 64, RegionOwn.T y 65, RegionOwn.T y 66, RegionOwn.T y 67, RegionOwn.T y 68, RegionOwn.T y 69, RegionOwn.T y 70, RegionOwn.T y 71, RegionOwn.T y 72, RegionOwn.T y 73, RegionOwn.T y 74, RegionOwn.T y 75, RegionOwn.T y 76, RegionOwn.T y 77, RegionOwn.T y 78, RegionOwn.T y 79, RegionOwn.T y 80]) y.defers = _
                        rw [hfr.at (k := 0) (by kernel_rfl) rfl, hfr.at (k := 1) (by kernel_rfl) rfl, hfr.at (k := 2) (by kernel_rfl) rfl, hfr.at (k := 3) (by kernel_rfl) rfl, hfr.at (k := 4) (by kernel_rfl) rfl, hfr.at (k := 5) (by kernel_rfl) rfl, hfr.at (k := 6) (by kernel_rfl) rfl, hfr.at (k := 7) (by kernel_rfl) rfl, hfr.at (k := 8) (by kernel_rfl) rfl, hfr.at (k := 9) (by kernel_rfl) rfl, hfr.at (k := 10) (by kernel_rfl) rfl, hfr.at (k := 11) (by kernel_rfl) rfl, hfr.at (k := 12) (by kernel_rfl) rfl, hfr.defers]
                        rfl
                      case rel =>
                        refine ⟨RegionOwn.T y 76, ?_, ?_, ?_, ?_, ?_⟩
                        · exact set_kept (row_kept HROWS.out.1 hbx) (by omega)
                        · exact set_kept (row_kept HROWS.out.2.2.1 hbx) (by omega)
                        · rw [heap_setCell_same _ _ _ _ _ _ xr]; rfl
                        · exact (HROWS.out.2.2.2.2.trans (hbx.mono HROWS.out.2.2.2.2.size)).setCell (p := ⟨w1.heap.size, 3, none⟩) (by show w.heap.size ≤ w1.heap.size; omega) _
                        · exact own_set q hd0 3 (RegionOwn.T y 76)
end Go.Proofs.Ytnjkahoaogeecaa
