/- Contract: the document's disk behind a Move. -/
import Derived.Test.YtnjkahoaogeecaaDiskRefCut
namespace Go.RegionOwn
variable {P : Program} {b : Act} {x : World} {o : Oper}
/-- A call of a function that is named. -/
theorem enter {f : FuncId} {xs : List Operand} {ts : Array TypeId} {args : List Value} (ho : o.op = .call { callee := .value (.func f), args := xs.toArray, argTypes := ts }) (hf : ∀ args w, (callFunc f args).run P w = .ok (.enter f args) w) (ha : xs.map b.eval = args) : (execOp b.eval o).run P x = .ok (.enter f args.toArray) x := by
  subst ha
  rw [← hf]
  obtain ⟨dst, op, ty, pos, after, gd⟩ := o
  dsimp only at ho
  subst ho
  show (callFunc f (#[] ++ xs.toArray.map b.eval ++ #[])).run P x = _
  simp
end Go.RegionOwn
namespace Go.Dk
theorem ba_ext {x y : ByteArray} (h : x.data.toList = y.data.toList) : x = y := by
  obtain ⟨⟨x⟩⟩ := x
  obtain ⟨⟨y⟩⟩ := y
  simp_all
theorem move_able {a : A} {name dst : Bs} (h : ableOf a name ≠ 0) : a.doMove name dst = (a, ableOf a name) := by
  unfold A.doMove
  rw [if_pos h]
theorem move_none {a : A} {name dst : Bs} (h : ableOf a name = 0) (hs : seek AF.name name a.files = none) : a.doMove name dst = (a, 2) := by
  unfold A.doMove
  rw [if_neg (by simpa using h), hs]
theorem move_file {a : A} {name dst : Bs} {f : AF} (h : ableOf a name = 0) (hs : seek AF.name name a.files = some f) : a.doMove name dst = if nameOk dst = false then (a, 60) else if name = dst then (a, 1) else a.change (a.left (ins AF.name (named dst f.bytes) (del AF.name name a.files))) := by
  unfold A.doMove
  rw [if_neg (by simpa using h), hs]
end Go.Dk
namespace Go.Proofs.Ytnjkahoaogeecaa
open Go.RowKit Go.Dk
set_option maxRecDepth 100000 in
set_option maxHeartbeats 4000000 in
theorem rmove_any (K : Nat) (D : RD) (name dst : ByteArray) (w : World) (h : RefAt K w D) (hK1 : K + 1 ≤ 100000) (hn : name.size ≤ maxLen) (hn2 : dst.size ≤ maxLen) :
    Calls Try.prog 55 #[D.v, .string name, .string dst] w fun e w' => ∃ D' : RD, e = .returned (.tuple #[D'.v, .int .i64 (D.a.doMove name.data.toList dst.data.toList).2]) ∧ D'.a = (D.a.doMove name.data.toList dst.data.toList).1 ∧ RefAt (K + 1) w' D' ∧ Below w.heap.size w w' := by
  obtain ⟨la, lc, hlv⟩ := Sees.form h.falls
  obtain ⟨fa, fc, hfv⟩ := Sees.form h.files
  generalize hR : D.a.doMove name.data.toList dst.data.toList = R
  have HV : D.v = .agg #[.slice fa D.rs.length fc, .int .i64 D.a.room, .slice la (flen D.a.fall) lc, .int .i64 D.a.changes, .bool D.a.down] := by unfold RD.v RD.cs; rw [hfv, hlv]
  generalize hX : (fun (e : Ending) (w' : World) => ∃ D' : RD, e = .returned (.tuple #[D'.v, .int .i64 R.2]) ∧ D'.a = R.1 ∧ RefAt (K + 1) w' D' ∧ Below w.heap.size w w') = X
  have HSAME : Hid (∀ w' c, Below w.heap.size w w' → R = (D.a, c) → X (.returned (.tuple #[.agg #[.slice fa D.rs.length fc, .int .i64 D.a.room, .slice la (flen D.a.fall) lc, .int .i64 D.a.changes, .bool D.a.down], .int .i64 c])) w') := fun w' c hb he => by
    rw [← hX, he, ← HV]
    exact ⟨D, rfl, rfl, (h.below hb).mono (Nat.le_succ K) hK1, hb⟩
  have HEND : Hid (∀ w' (D' : RD), D'.a = R.1 → RefAt (K + 1) w' D' → Below w.heap.size w w' → X (.returned (.tuple #[D'.v, .int .i64 R.2])) w') := fun w' D' ha hr hb => by
    rw [← hX]
    exact ⟨D', rfl, ha, hr, hb⟩
  clear hX
  have HFIND : Hid (∀ w1, Below w.heap.size w w1 → Calls Try.prog 67 #[.agg #[.slice fa D.rs.length fc, .int .i64 D.a.room, .slice la (flen D.a.fall) lc, .int .i64 D.a.changes, .bool D.a.down], .string name] w1 fun e w' => e = .returned (.tuple #[.int .i64 (place RF.nm name.data.toList D.rs : Nat), .bool (seek RF.nm name.data.toList D.rs).isSome]) ∧ Below w1.heap.size w1 w') := fun w1 hb => by
    rw [← HV]
    exact rfind_any K D name w1 (h.below hb)
  have HNM : Hid (∀ (s : ByteArray) w1, s.size ≤ maxLen → Calls Try.prog 26 #[.string s] w1 fun e w' => e = .returned (.bool (nameOk s.data.toList)) ∧ w' = w1) := fun s w1 hs => rname_any s w1 hs
  rw [HV]
  have HSK : Hid ((seek RF.nm name.data.toList D.rs).map RF.a = seek AF.name name.data.toList D.a.files) := by
    rw [← h.same]
    exact map_seek (na := RF.nm) (nb := AF.name) RF.a (fun _ => rfl) name.data.toList D.rs
  cases hd : D.a.down with
  | true =>
    have he : R = (D.a, 7) := by
      rw [← hR, move_able (by unfold ableOf; simp [hd])]
      unfold ableOf
      rw [hd]
      rfl
    rw [hd] at HFIND HSAME
    generalize place RF.nm name.data.toList D.rs = pl at *
    generalize (seek RF.nm name.data.toList D.rs).isSome = is at *
    clear h hR HEND HV
    replace HSAME := hide (fun w' hb => HSAME.out w' 7 hb he)
    clear he
    go_enter Try.func55, Try.ntmps55
    go_wp2_with (first | (go_at_call 67; refine (HFIND.out _ (two_below (Below.refl _ _)).2.2).mono ?_; rintro e w1 ⟨rfl, k1⟩; obtain ⟨x4, x8, kb⟩ := two_below k1; obtain ⟨c0, c1, c2, c3, c4⟩ := cells5 x4; obtain ⟨d0, d1, d2, d3, d4⟩ := cells5 x8; obtain ⟨f0, f1, f2, f3, f4⟩ := frozen5 x8; have HR := hide (And.intro x4 (And.intro x8 kb)); clear x4 x8 kb k1) | (go_at_call 26; refine (HNM.out _ _ (by assumption)).mono ?_; rintro e w1 ⟨rfl, rfl⟩))
    exact bodyPost_ret (results_cell2_row Try.results55 _ _ _ 27 _ (0, 0) _ rfl (set5 HR.out.2.1 _ _ _ _ _) Try.underlying27 rfl infoDisk) rfl (HSAME.out _ (below5 HR.out.2.2 (Nat.le_add_right _ 1) _ _ _ _ _))
  | false =>
    rw [hd] at HFIND HSAME
    cases hok : nameOk name.data.toList with
    | false =>
      have he : R = (D.a, 60) := by
        rw [← hR, move_able (by unfold ableOf; rw [hd, hok]; decide)]
        unfold ableOf
        rw [hd, hok]
        rfl
      generalize place RF.nm name.data.toList D.rs = pl at *
      generalize (seek RF.nm name.data.toList D.rs).isSome = is at *
      clear h hR HEND HV
      replace HSAME := hide (fun w' hb => HSAME.out w' 60 hb he)
      clear he
      go_enter Try.func55, Try.ntmps55
      go_wp2_with (first | (go_at_call 67; refine (HFIND.out _ (two_below (Below.refl _ _)).2.2).mono ?_; rintro e w1 ⟨rfl, k1⟩; obtain ⟨x4, x8, kb⟩ := two_below k1; obtain ⟨c0, c1, c2, c3, c4⟩ := cells5 x4; obtain ⟨d0, d1, d2, d3, d4⟩ := cells5 x8; obtain ⟨f0, f1, f2, f3, f4⟩ := frozen5 x8; have HR := hide (And.intro x4 (And.intro x8 kb)); clear x4 x8 kb k1) | (go_at_call 26; refine (HNM.out _ _ (by assumption)).mono ?_; rintro e w1 ⟨rfl, rfl⟩))
      exact bodyPost_ret (results_cell2_row Try.results55 _ _ _ 27 _ (0, 0) _ rfl (set5 HR.out.2.1 _ _ _ _ _) Try.underlying27 rfl infoDisk) rfl (HSAME.out _ (below5 HR.out.2.2 (Nat.le_add_right _ 1) _ _ _ _ _))
    | true =>
      have hable : ableOf D.a name.data.toList = 0 := by unfold ableOf; rw [hd, hok]; rfl
      cases hsk : seek RF.nm name.data.toList D.rs with
      | none =>
        have he : R = (D.a, 2) := by
          rw [← hR, move_none hable (by rw [← HSK.out, hsk]; rfl)]
        rw [hsk] at HFIND
        generalize place RF.nm name.data.toList D.rs = pl at *
        clear h hR HEND HV hsk HSK hable
        replace HSAME := hide (fun w' hb => HSAME.out w' 2 hb he)
        clear he
        go_enter Try.func55, Try.ntmps55
        go_wp2_with (first | (go_at_call 67; refine (HFIND.out _ (two_below (Below.refl _ _)).2.2).mono ?_; rintro e w1 ⟨rfl, k1⟩; obtain ⟨x4, x8, kb⟩ := two_below k1; obtain ⟨c0, c1, c2, c3, c4⟩ := cells5 x4; obtain ⟨d0, d1, d2, d3, d4⟩ := cells5 x8; obtain ⟨f0, f1, f2, f3, f4⟩ := frozen5 x8; have HR := hide (And.intro x4 (And.intro x8 kb)); clear x4 x8 kb k1) | (go_at_call 26; refine (HNM.out _ _ (by assumption)).mono ?_; rintro e w1 ⟨rfl, rfl⟩))
        exact bodyPost_ret (results_cell2_row Try.results55 _ _ _ 27 _ (0, 0) _ rfl (set5 HR.out.2.1 _ _ _ _ _) Try.underlying27 rfl infoDisk) rfl (HSAME.out _ (below5 HR.out.2.2 (Nat.le_add_right _ 1) _ _ _ _ _))
      | some r =>
        have hsk' : seek AF.name name.data.toList D.a.files = some r.a := by rw [← HSK.out, hsk]; rfl
        rw [move_file hable hsk'] at hR
        cases hok2 : nameOk dst.data.toList with
        | false =>
          rw [hok2, if_pos rfl] at hR
          have he : R = (D.a, 60) := hR.symm
          rw [hsk] at HFIND
          generalize place RF.nm name.data.toList D.rs = pl at *
          clear h hR HEND HV hsk hsk' HSK hable
          replace HSAME := hide (fun w' hb => HSAME.out w' 60 hb he)
          clear he
          go_enter Try.func55, Try.ntmps55
          go_wp2_with (first | (go_at_call 67; refine (HFIND.out _ (two_below (Below.refl _ _)).2.2).mono ?_; rintro e w1 ⟨rfl, k1⟩; obtain ⟨x4, x8, kb⟩ := two_below k1; obtain ⟨c0, c1, c2, c3, c4⟩ := cells5 x4; obtain ⟨d0, d1, d2, d3, d4⟩ := cells5 x8; obtain ⟨f0, f1, f2, f3, f4⟩ := frozen5 x8; have HR := hide (And.intro x4 (And.intro x8 kb)); clear x4 x8 kb k1) | (go_at_call 26; refine (HNM.out _ _ (by assumption)).mono ?_; rintro e w1 ⟨rfl, rfl⟩))
          exact bodyPost_ret (results_cell2_row Try.results55 _ _ _ 27 _ (0, 0) _ rfl (set5 HR.out.2.1 _ _ _ _ _) Try.underlying27 rfl infoDisk) rfl (HSAME.out _ (below5 HR.out.2.2 (Nat.le_add_right _ 1) _ _ _ _ _))
        | true =>
          rw [hok2, if_neg (by decide)] at hR
          by_cases hne : name.data.toList = dst.data.toList
          · rw [if_pos hne] at hR
            have he : R = (D.a, 1) := hR.symm
            have hnd : name = dst := ba_ext hne
            subst hnd
            rw [hsk] at HFIND
            generalize place RF.nm name.data.toList D.rs = pl at *
            clear h hR HEND HV hsk hsk' HSK hable hne
            replace HSAME := hide (fun w' hb => HSAME.out w' 1 hb he)
            clear he
            go_enter Try.func55, Try.ntmps55
            go_wp2_with (first | (go_at_call 67; refine (HFIND.out _ (two_below (Below.refl _ _)).2.2).mono ?_; rintro e w1 ⟨rfl, k1⟩; obtain ⟨x4, x8, kb⟩ := two_below k1; obtain ⟨c0, c1, c2, c3, c4⟩ := cells5 x4; obtain ⟨d0, d1, d2, d3, d4⟩ := cells5 x8; obtain ⟨f0, f1, f2, f3, f4⟩ := frozen5 x8; have HR := hide (And.intro x4 (And.intro x8 kb)); clear x4 x8 kb k1) | (go_at_call 26; refine (HNM.out _ _ (by assumption)).mono ?_; rintro e w1 ⟨rfl, rfl⟩))
            exact bodyPost_ret (results_cell2_row Try.results55 _ _ _ 27 _ (0, 0) _ rfl (set5 HR.out.2.1 _ _ _ _ _) Try.underlying27 rfl infoDisk) rfl (HSAME.out _ (below5 HR.out.2.2 (Nat.le_add_right _ 1) _ _ _ _ _))
          · rw [if_neg hne] at hR
            have hnd : ¬ name = dst := fun e => hne (by rw [e])
            have hnd2 : (name.toList == dst.toList) = false := by
              rw [ByteArray.toList_eq, ByteArray.toList_eq]
              simpa using hne
            obtain ⟨hat, hatl⟩ := place_seek h.rises hsk
            have hrm := (seek_some hsk).1
            have hrp := h.puts r hrm
            have hrs := h.small r hrm
            obtain ⟨b, off, cap, hv, hcap, hbw, q0, q1, q2, q3⟩ := h.files.file hat
            rw [hfv] at hv
            obtain ⟨pa, pc, hpv⟩ := Sees.form hrp
            rw [hpv] at q3
            unfold txt at q0 q1
            have hbl := hrs.bytes
            have hpl := hrs.puts
            have hnm : (⟨dst.data.toList.toArray⟩ : ByteArray) = dst := by obtain ⟨⟨l⟩⟩ := dst; rfl
            have HBYTES : Hid (∀ w1, Below w.heap.size w w1 → Calls Try.prog 36 #[.agg #[.string ⟨r.a.name.toArray⟩, .string ⟨r.a.sure.toArray⟩, .bool r.a.settled, .slice pa r.a.puts.length pc]] w1 fun e w' => e = .returned (.string ⟨r.a.bytes.toArray⟩) ∧ Below w1.heap.size w1 w') := fun w1 hb => by
              have := rbytes_any r w1 (Sees.below hrp hb) (by omega) (hrs.after (by omega))
              unfold RF.v RF.cs txt at this
              rw [hpv] at this
              exact this
            have HSTRIKE : Hid (∀ w1, Below w.heap.size w w1 → Calls Try.prog 68 #[.agg #[.slice fa D.rs.length fc, .int .i64 D.a.room, .slice la (flen D.a.fall) lc, .int .i64 D.a.changes, .bool false]] w1 fun e w' => ∃ D' : RD, e = .returned (.tuple #[D'.v, .int .i64 D.a.struck.2]) ∧ D'.a = D.a.struck.1 ∧ RefAt (K + 1) w' D' ∧ Below w1.heap.size w1 w' ∧ (D.a.hit = none → D'.v = .agg #[.slice fa D.rs.length fc, .int .i64 D.a.room, .slice la (flen D.a.fall) lc, .int .i64 ((D.a.changes : Int) + 1), .bool false])) := fun w1 hb => rstrike_lit K D w1 (h.below hb) hK1 hd hfv hlv
            have HSTR : Hid ((D.a.hit = none → D.a.struck.2 = 0) ∧ ∀ f, D.a.hit = some f → D.a.struck.2 = 7) := ⟨fun e => by unfold A.struck; rw [e], fun f e => by unfold A.struck; rw [e]⟩
            have HD1 : Hid (∀ w1, Below w.heap.size w w1 → RefAt (K + 1) w1 ⟨{ D.a with changes := D.a.changes + 1 }, D.fv, D.lv, D.rs⟩ ∧ RD.v ⟨{ D.a with changes := D.a.changes + 1 }, D.fv, D.lv, D.rs⟩ = .agg #[.slice fa D.rs.length fc, .int .i64 D.a.room, .slice la (flen D.a.fall) lc, .int .i64 ((D.a.changes : Int) + 1), .bool false]) := fun w1 hb => by
              have h' := (h.below hb).mono (Nat.le_succ K) hK1
              refine ⟨⟨h'.files, h'.puts, h'.same, h'.falls, h'.rises, h'.small, h'.count, Nat.succ_le_succ h.chg, hK1⟩, ?_⟩
              unfold RD.v RD.cs
              rw [← hfv, ← hlv, ← hd]
              rfl
            have hcnt := h.count
            have HSET : Hid (∀ w1, Calls Try.prog 71 #[.agg #[.string ⟨r.a.name.toArray⟩, .string ⟨r.a.sure.toArray⟩, .bool r.a.settled, .slice pa r.a.puts.length pc], .string dst, .string ⟨r.a.bytes.toArray⟩] w1 fun e w' => e = .returned (.agg #[.string dst, .string ⟨r.a.bytes.toArray⟩, .bool true, .slice none 0 0]) ∧ Below w1.heap.size w1 w') := fun w1 => by
              have := rsettled_any r dst.data.toList r.a.bytes w1 ⟨_, _, _, hpv⟩
              unfold RF.v RF.cs txt at this
              rw [hpv, hnm] at this
              exact this
            have HWO : Hid (∀ w1, Below w.heap.size w w1 → Calls Try.prog 70 #[.agg #[.slice fa D.rs.length fc, .int .i64 D.a.room, .slice la (flen D.a.fall) lc, .int .i64 ((D.a.changes : Int) + 1), .bool false], .string name] w1 fun e w' => ∃ D' : RD, e = .returned D'.v ∧ D'.a = D.a.left (del AF.name name.data.toList D.a.files) ∧ RefAt (K + 1) w' D' ∧ Below w1.heap.size w1 w') := fun w1 hb => by
              rw [← (HD1.out w1 hb).2]
              refine (rwithout_any (K + 1) _ name w1 (HD1.out w1 hb).1).mono ?_
              rintro e w' ⟨fv, he, hr', hb'⟩
              exact ⟨_, he, rfl, hr', hb'⟩
            have hfl : D.a.files.length ≤ K := by rw [← h.same, List.length_map]; exact hcnt
            have HWI : Hid (∀ w1 (E : RD), E.a = D.a.left (del AF.name name.data.toList D.a.files) → RefAt (K + 1) w1 E → Calls Try.prog 69 #[E.v, .agg #[.string dst, .string ⟨r.a.bytes.toArray⟩, .bool true, .slice none 0 0]] w1 fun e w' => ∃ D' : RD, e = .returned D'.v ∧ D'.a = D.a.left (ins AF.name (named dst.data.toList r.a.bytes) (del AF.name name.data.toList D.a.files)) ∧ RefAt (K + 1) w' D' ∧ Below w1.heap.size w1 w') := fun w1 E hE hRE => by
              have hsm : Small (K + 1) (named dst.data.toList r.a.bytes) := ⟨Nat.zero_le _, fun i => by unfold AF.after named; simp; omega, hok2⟩
              have hlen : E.rs.length < K + 1 := by
                have e1 : E.rs.length = E.a.files.length := by rw [← hRE.same, List.length_map]
                rw [e1, hE]
                exact Nat.lt_succ_of_le (Nat.le_trans (length_del _ _) hfl)
              have := rwith_any (K + 1) E ⟨named dst.data.toList r.a.bytes, .slice none 0 0⟩ w1 hRE ⟨rfl, .inl ⟨rfl, rfl⟩⟩ hsm hlen
              unfold RF.v RF.cs txt named at this
              rw [hnm] at this
              refine this.mono ?_
              rintro e w' ⟨fv, he, hr', hb'⟩
              exact ⟨_, he, by show ({ E.a with files := _ } : A) = _; rw [hE]; rfl, hr', hb'⟩
            rw [hsk] at HFIND
            generalize hpl' : place RF.nm name.data.toList D.rs = pl at *
            clear h hsk hsk' hat hable HD1 HSAME hpv hrp hrs HV hfv hlv
            unfold RD.v RD.cs at HSTRIKE HEND
            cases hv
            go_enter Try.func55, Try.ntmps55
            go_upto_region 12 with (first | (go_at_call 67; refine (HFIND.out _ (two_below (Below.refl _ _)).2.2).mono ?_; rintro e w1 ⟨rfl, k1⟩; obtain ⟨x4, x8, kb⟩ := two_below k1; obtain ⟨c0, c1, c2, c3, c4⟩ := cells5 x4; obtain ⟨d0, d1, d2, d3, d4⟩ := cells5 x8; obtain ⟨f0, f1, f2, f3, f4⟩ := frozen5 x8; have HR := hide (And.intro x4 (And.intro x8 kb)); clear x4 x8 kb k1) | (go_at_call 26; refine (HNM.out _ _ (by assumption)).mono ?_; rintro e w1 ⟨rfl, rfl⟩))
            have e : ∀ k u, w.cell? ⟨b, k, none⟩ = some u → w1.cell? ⟨b, k, none⟩ = some u := fun k u hu => (HR.out.2.2.cell (p := ⟨b, k, none⟩) hbw).trans hu
            have q0' := e _ _ q0
            have q1' := e _ _ q1
            have q2' := e _ _ q2
            have q3' := e _ _ q3
            have hb12 : Hid (w.heap.size + 1 < w1.heap.size) := block_lt HR.out.2.1
            clear e q0 q1 q2 q3 d0 d1 d2 d3 d4 f0 f1 f2 f3 f4
            have kx : Below w1.heap.size w1 (w1.alloc (.cells #[.string ⟨r.a.name.toArray⟩, .string ⟨r.a.sure.toArray⟩, .bool r.a.settled, .slice pa r.a.puts.length pc] 52)) := (Below.refl _ _).alloc (Nat.le_refl _) _
            have HR2 := hide (And.intro (row_kept HR.out.1 kx) (And.intro (row_kept HR.out.2.1 kx) (And.intro (heap_alloc_new w1 (.cells #[.string ⟨r.a.name.toArray⟩, .string ⟨r.a.sure.toArray⟩, .bool r.a.settled, .slice pa r.a.puts.length pc] 52)) (HR.out.2.2.trans (kx.mono HR.out.2.2.size)))))
            clear kx HR
            go_upto_region 13 with fail
            clear c0 c1 c2 c3 c4 q0' q1' q2' q3'
            obtain ⟨c0, c1, c2, c3, c4⟩ := cells5 HR2.out.1
            cases hit : D.a.hit with
            | some f =>
              rw [struck_hit hit] at hR
              have hst := HSTR.out.2 f hit
              rw [hst] at HSTRIKE
              have hR2 : R.2 = 7 := by rw [← hR]; exact hst
              rw [hR2] at HEND
              clear hst hR2
              go_wp2_with (go_at_call 68; refine (HSTRIKE.out _ HR2.out.2.2.2).mono ?_; rintro e w3 ⟨D', rfl, ha, hr', k3, hdv⟩; obtain ⟨fa', fc', hfv'⟩ := Sees.form hr'.files; obtain ⟨la', lc', hlv'⟩ := Sees.form hr'.falls; have HR3 := hide (And.intro (row_kept HR2.out.1 k3) (And.intro (row_kept HR2.out.2.1 k3) (And.intro (row_kept HR2.out.2.2.1 k3) (And.intro (HR2.out.2.2.2.trans (k3.mono HR2.out.2.2.2.size)) (And.intro ha hr'))))); clear ha hr' k3 hdv; obtain ⟨c0, c1, c2, c3, c4⟩ := cells5 HR3.out.1; obtain ⟨g0, g1, g2, g3, g4⟩ := frozen5 HR3.out.1; obtain ⟨d0, d1, d2, d3, d4⟩ := cells5 HR3.out.2.1; obtain ⟨f0, f1, f2, f3, f4⟩ := frozen5 HR3.out.2.1)
              have z6 := set5_kept HR3.out.2.1 (by omega : w.heap.size + 1 ≠ w.heap.size) (Value.slice fa' D'.rs.length fc') (.int .i64 D'.a.room) (.slice la' (flen D'.a.fall) lc') (.int .i64 D'.a.changes) (.bool D'.a.down)
              have zb := below5 HR3.out.2.2.2.1 (Nat.le_refl _) (Value.slice fa' D'.rs.length fc') (.int .i64 D'.a.room) (.slice la' (flen D'.a.fall) lc') (.int .i64 D'.a.changes) (.bool D'.a.down)
              have zr := RefAt.set5 HR3.out.2.2.2.2.2 HR3.out.1 (Value.slice fa' D'.rs.length fc') (.int .i64 D'.a.room) (.slice la' (flen D'.a.fall) lc') (.int .i64 D'.a.changes) (.bool D'.a.down)
              refine bodyPost_ret (results_cell2_row Try.results55 _ _ _ 27 _ (0, 0) _ rfl (set5 z6 _ _ _ _ _) Try.underlying27 rfl infoDisk) rfl ?_
              have := HEND.out _ D' (by rw [← hR]; exact HR3.out.2.2.2.2.1) (RefAt.set5 zr z6 (Value.slice fa' D'.rs.length fc') (.int .i64 D'.a.room) (.slice la' (flen D'.a.fall) lc') (.int .i64 D'.a.changes) (.bool D'.a.down)) (below5 zb (Nat.le_add_right _ 1) _ _ _ _ _)
              rw [hfv', hlv'] at this
              exact this
            | none =>
              rw [struck_calm hit] at hR
              have hst := HSTR.out.1 hit
              rw [hst] at HSTRIKE
              have hR2 : R.2 = 0 := by rw [← hR]
              rw [hR2] at HEND
              clear hst hR2
              go_upto_region 16 with (go_at_call 68; refine (HSTRIKE.out _ HR2.out.2.2.2).mono ?_; rintro e w3 ⟨D', rfl, ha, hr', k3, hdv⟩; rw [hdv hit]; have HR3 := hide (And.intro (row_kept HR2.out.1 k3) (And.intro (row_kept HR2.out.2.1 k3) (And.intro (row_kept HR2.out.2.2.1 k3) (HR2.out.2.2.2.trans (k3.mono HR2.out.2.2.2.size))))); clear ha hr' k3 hdv; obtain ⟨c0, c1, c2, c3, c4⟩ := cells5 HR3.out.1; obtain ⟨g0, g1, g2, g3, g4⟩ := frozen5 HR3.out.1; obtain ⟨d0, d1, d2, d3, d4⟩ := cells5 HR3.out.2.1; obtain ⟨f0, f1, f2, f3, f4⟩ := frozen5 HR3.out.2.1)
              obtain ⟨W, hW⟩ : ∃ x, x = ((((w3.setCell ⟨w.heap.size, 0, none⟩ (.slice (some ⟨b, off, none⟩) D.rs.length fc)).setCell ⟨w.heap.size, 1, none⟩ (.int .i64 D.a.room)).setCell ⟨w.heap.size, 2, none⟩ (.slice la (flen D.a.fall) lc)).setCell ⟨w.heap.size, 3, none⟩ (.int .i64 ((D.a.changes : Int) + 1))).setCell ⟨w.heap.size, 4, none⟩ (.bool false) := ⟨_, rfl⟩
              rw [← hW]
              have HW : Hid (W.heap[w.heap.size]? = some (.cells #[.slice (some ⟨b, off, none⟩) D.rs.length fc, .int .i64 D.a.room, .slice la (flen D.a.fall) lc, .int .i64 ((D.a.changes : Int) + 1), .bool false] 27 (0, 0)) ∧ W.heap[w.heap.size + 1]? = some (.cells #[Value.slice none 0 0, Value.int IntKind.i64 0, Value.slice none 0 0, Value.int IntKind.i64 0, Value.bool false] 27 (0, 0)) ∧ W.heap[w1.heap.size]? = some (.cells #[.string ⟨r.a.name.toArray⟩, .string ⟨r.a.sure.toArray⟩, .bool r.a.settled, .slice pa r.a.puts.length pc] 52 (0, 0)) ∧ Below w.heap.size w W) := by
                have := hb12.out
                rw [hW]
                exact ⟨set5 HR3.out.1 _ _ _ _ _, set5_kept HR3.out.2.1 (by omega) _ _ _ _ _, set5_kept HR3.out.2.2.1 (by omega) _ _ _ _ _, below5 HR3.out.2.2.2 (Nat.le_refl _) _ _ _ _ _⟩
              clear hW HR3 HR2 c0 c1 c2 c3 c4 g0 g1 g2 g3 g4 d0 d1 d2 d3 d4 f0 f1 f2 f3 f4
              go_cut [7] from 12 to 63 (fun v wx => v = .int .i64 0 ∧ Hid (∃ D2 : RD, D2.a = D.a.left (ins AF.name (named dst.data.toList r.a.bytes) (del AF.name name.data.toList D.a.files)) ∧ RefAt (K + 1) wx D2 ∧ Below w.heap.size w wx ∧ wx.heap[w.heap.size + 1]? = some (.cells #[D2.fv, .int .i64 D2.a.room, D2.lv, .int .i64 D2.a.changes, .bool D2.a.down] 27 (0, 0))))
              case rest =>
                obtain ⟨rfl, HC⟩ := hcut
                obtain ⟨D2, ha2, hr2, hb2, hrow⟩ := HC.out
                clear HC
                go_wp2
                exact bodyPost_ret (results_cell2_row Try.results55 _ _ _ 27 _ (0, 0) _ rfl hrow Try.underlying27 rfl infoDisk) rfl (HEND.out _ D2 (by rw [← hR]; exact ha2) hr2 hb2)
              case first =>
                rename_i J K' hJ hK'
                refine RegionOwn.regionK 9 64 52 4 (fun i => match i with
                  | 0 => RegionOwn.val (.agg #[.slice (some ⟨b, off, none⟩) D.rs.length fc, .int .i64 D.a.room, .slice la (flen D.a.fall) lc, .int .i64 ((D.a.changes : Int) + 1), .bool false])
                  | 1 => RegionOwn.val (.string name)
                  | 2 => RegionOwn.fact (fun x v => ∃ E : RD, v = E.v ∧ E.a = D.a.left (del AF.name name.data.toList D.a.files) ∧ RefAt (K + 1) x E)
                  | 3 => RegionOwn.val (.agg #[.string ⟨r.a.name.toArray⟩, .string ⟨r.a.sure.toArray⟩, .bool r.a.settled, .slice pa r.a.puts.length pc])
                  | 4 => RegionOwn.val (.string dst)
                  | 5 => RegionOwn.val (.agg #[.string ⟨r.a.name.toArray⟩, .string ⟨r.a.sure.toArray⟩, .bool r.a.settled, .slice pa r.a.puts.length pc])
                  | 6 => RegionOwn.val (.string ⟨r.a.bytes.toArray⟩)
                  | 7 => RegionOwn.val (.agg #[.string dst, .string ⟨r.a.bytes.toArray⟩, .bool true, .slice none 0 0])
                  | 8 => RegionOwn.fact (fun x v => ∃ E : RD, v = E.v ∧ E.a = D.a.left (ins AF.name (named dst.data.toList r.a.bytes) (del AF.name name.data.toList D.a.files)) ∧ RefAt (K + 1) x E)
                  | _ => RegionOwn.val undef) (fun _ => none) ?_ (by kernel_rfl) rfl (by kernel_rfl) ?_ ?_ ?_
                · intro i hi
                  match i, hi with
                  | 0, _ | 1, _ | 2, _ | 3, _ | 4, _ | 5, _ | 6, _ | 7, _ | 8, _ => rfl
                  | i + 9, h => exact absurd h (by omega)
                · intro i p hi h
                  refine ⟨fun _ _ => rfl, ?_⟩
                  match i, hi, h with
                  | 0, _, h | 1, _, h | 3, _, h | 4, _, h | 5, _, h | 6, _, h | 7, _, h => cases h
                  | 2, _, h => cases h; exact fun x y v ⟨E, e1, e2, e3⟩ hb => ⟨E, e1, e2, e3.below hb⟩
                  | 8, _, h => cases h; exact fun x y v ⟨E, e1, e2, e3⟩ hb => ⟨E, e1, e2, e3.below hb⟩
                  | i + 9, h, _ => exact absurd h (by omega)
                · intro i hi y x hfr hbx hD K' hK
                  have e3 : RegionOwn.T y 3 = .pointer (some ⟨w.heap.size, 0, none⟩) := hfr.at (by kernel_rfl) rfl
                  have e10 : RegionOwn.T y 10 = .pointer (some ⟨w1.heap.size, 0, none⟩) := hfr.at (by kernel_rfl) rfl
                  have e1 : RegionOwn.T y 1 = .string name := hfr.at (by kernel_rfl) rfl
                  have e2 : RegionOwn.T y 2 = .string dst := hfr.at (by kernel_rfl) rfl
                  have hbw' : Below w.heap.size w x := HW.out.2.2.2.trans (hbx.mono HW.out.2.2.2.size)
                  match i, hi with
                  | 0, _ =>
                    refine RegionOwn.quiet rfl rfl hK rfl rfl ?_
                    obtain ⟨c0, c1, c2, c3, c4⟩ := cells5 (row_kept HW.out.1 hbx)
                    clear hK hD hfr
                    unfold RegionOwn.T at e3
                    go_simp
                  | 1, _ =>
                    refine RegionOwn.quiet rfl rfl hK rfl rfl ?_
                    clear hK hD hfr
                    unfold RegionOwn.T at e1
                    go_simp
                  | 2, _ =>
                    have q : RegionOwn.T y 55 = .agg #[.slice (some ⟨b, off, none⟩) D.rs.length fc, .int .i64 D.a.room, .slice la (flen D.a.fall) lc, .int .i64 ((D.a.changes : Int) + 1), .bool false] := hD 0 55 (by decide) rfl (by kernel_rfl) (.inl rfl)
                    have q1 : RegionOwn.T y 56 = .string name := hD 1 56 (by decide) rfl (by kernel_rfl) (.inl rfl)
                    have qq : [RegionOwn.T y 55, RegionOwn.T y 56] = [.agg #[.slice (some ⟨b, off, none⟩) D.rs.length fc, .int .i64 D.a.room, .slice la (flen D.a.fall) lc, .int .i64 ((D.a.changes : Int) + 1), .bool false], .string name] := by rw [q, q1]
                    refine RegionOwn.called rfl rfl hK rfl (RegionOwn.enter rfl Try.call70 qq) ?_
                    refine (HWO.out x hbw').mono ?_
                    rintro e w' ⟨E, he, hE, hRE, hb'⟩
                    exact ⟨_, he, hb', E, rfl, hE, hRE⟩
                  | 3, _ =>
                    refine RegionOwn.quiet rfl rfl hK rfl rfl ?_
                    obtain ⟨p0, p1, p2, p3⟩ := cells4 (row_kept HW.out.2.2.1 hbx)
                    clear hK hD hfr
                    unfold RegionOwn.T at e10
                    go_simp
                  | 4, _ =>
                    refine RegionOwn.quiet rfl rfl hK rfl rfl ?_
                    clear hK hD hfr
                    unfold RegionOwn.T at e2
                    go_simp
                  | 5, _ =>
                    refine RegionOwn.quiet rfl rfl hK rfl rfl ?_
                    obtain ⟨p0, p1, p2, p3⟩ := cells4 (row_kept HW.out.2.2.1 hbx)
                    clear hK hD hfr
                    unfold RegionOwn.T at e10
                    go_simp
                  | 6, _ =>
                    have q : RegionOwn.T y 60 = .agg #[.string ⟨r.a.name.toArray⟩, .string ⟨r.a.sure.toArray⟩, .bool r.a.settled, .slice pa r.a.puts.length pc] := hD 5 60 (by decide) rfl (by kernel_rfl) (.inl rfl)
                    have qq : [RegionOwn.T y 60] = [.agg #[.string ⟨r.a.name.toArray⟩, .string ⟨r.a.sure.toArray⟩, .bool r.a.settled, .slice pa r.a.puts.length pc]] := by rw [q]
                    refine RegionOwn.called rfl rfl hK rfl (RegionOwn.enter rfl Try.call36 qq) ?_
                    refine (HBYTES.out x hbw').mono ?_
                    rintro e w' ⟨he, hb'⟩
                    exact ⟨_, he, hb', rfl⟩
                  | 7, _ =>
                    have q : RegionOwn.T y 58 = .agg #[.string ⟨r.a.name.toArray⟩, .string ⟨r.a.sure.toArray⟩, .bool r.a.settled, .slice pa r.a.puts.length pc] := hD 3 58 (by decide) rfl (by kernel_rfl) (.inl rfl)
                    have q1 : RegionOwn.T y 59 = .string dst := hD 4 59 (by decide) rfl (by kernel_rfl) (.inl rfl)
                    have q2 : RegionOwn.T y 61 = .string ⟨r.a.bytes.toArray⟩ := hD 6 61 (by decide) rfl (by kernel_rfl) (.inl rfl)
                    have qq : [RegionOwn.T y 58, RegionOwn.T y 59, RegionOwn.T y 61] = [.agg #[.string ⟨r.a.name.toArray⟩, .string ⟨r.a.sure.toArray⟩, .bool r.a.settled, .slice pa r.a.puts.length pc], .string dst, .string ⟨r.a.bytes.toArray⟩] := by rw [q, q1, q2]
                    refine RegionOwn.called rfl rfl hK rfl (RegionOwn.enter rfl Try.call71 qq) ?_
                    refine (HSET.out x).mono ?_
                    rintro e w' ⟨he, hb'⟩
                    exact ⟨_, he, hb', rfl⟩
                  | 8, _ =>
                    obtain ⟨E, q, hE, hRE⟩ : ∃ E : RD, RegionOwn.T y 57 = E.v ∧ E.a = D.a.left (del AF.name name.data.toList D.a.files) ∧ RefAt (K + 1) x E := hD 2 57 (by decide) rfl (by kernel_rfl) (.inl rfl)
                    have q1 : RegionOwn.T y 62 = .agg #[.string dst, .string ⟨r.a.bytes.toArray⟩, .bool true, .slice none 0 0] := hD 7 62 (by decide) rfl (by kernel_rfl) (.inl rfl)
                    have qq : [RegionOwn.T y 57, RegionOwn.T y 62] = [E.v, .agg #[.string dst, .string ⟨r.a.bytes.toArray⟩, .bool true, .slice none 0 0]] := by rw [q, q1]
                    refine RegionOwn.called rfl rfl hK rfl (RegionOwn.enter rfl Try.call69 qq) ?_
                    refine (HWI.out x E hE hRE).mono ?_
                    rintro e w' ⟨E2, he, hE2, hRE2, hb'⟩
                    exact ⟨_, he, hb', E2, rfl, hE2, hRE2⟩
                  | i + 9, h => exact absurd h (by omega)
                · intro y x hfr hbx hD
                  obtain ⟨E, q, hE, hRE⟩ : ∃ E : RD, RegionOwn.T y 63 = E.v ∧ E.a = D.a.left (ins AF.name (named dst.data.toList r.a.bytes) (del AF.name name.data.toList D.a.files)) ∧ RefAt (K + 1) x E := hD 8 63 (by decide) rfl (fun i hi e => by cases e)
                  have e6 : RegionOwn.T y 6 = .pointer (some ⟨w.heap.size + 1, 0, none⟩) := hfr.at (by kernel_rfl) rfl
                  have xr := row_kept HW.out.2.1 hbx
                  have hsz : y.tmps.size = 64 := hfr.size
                  obtain ⟨d0, d1, d2, d3, d4⟩ := cells5 xr
                  obtain ⟨f0, f1, f2, f3, f4⟩ := frozen5 xr
                  obtain ⟨fa', fc', hfv'⟩ := Sees.form hRE.files
                  obtain ⟨la', lc', hlv'⟩ := Sees.form hRE.falls
                  refine RegionOwn.list_skip (y := ((((x.setCell ⟨w.heap.size + 1, 0, none⟩ E.fv).setCell ⟨w.heap.size + 1, 1, none⟩ (.int .i64 E.a.room)).setCell ⟨w.heap.size + 1, 2, none⟩ E.lv).setCell ⟨w.heap.size + 1, 3, none⟩ (.int .i64 E.a.changes)).setCell ⟨w.heap.size + 1, 4, none⟩ (.bool E.a.down)) rfl ?_ ?_
                  · unfold RD.v RD.cs at q
                    rw [hfv', hlv'] at q ⊢
                    clear hD hfr xr hJ hK' hE hRE
                    unfold RegionOwn.T at q e6
                    have q' := q
                    rw [Array.getD_eq_getD_getElem?] at q'
                    go_simp
                  · refine RegionOwn.list_value (v := .int .i64 0) rfl rfl ?_
                    refine hK' _ _ (Met.intro (hJ _ _ ?_))
                    (repeat apply Exists.intro)
                    refine ⟨?rel, ?eq⟩
                    case eq =>
                      have e0z : RegionOwn.T (y.put (some 7) (.int .i64 0)) 0 = _ := (RegionOwn.T_put_ne (by decide)).trans (hfr.at (k := 0) (by kernel_rfl) rfl)
                      have e1z : RegionOwn.T (y.put (some 7) (.int .i64 0)) 1 = _ := (RegionOwn.T_put_ne (by decide)).trans (hfr.at (k := 1) (by kernel_rfl) rfl)
                      have e2z : RegionOwn.T (y.put (some 7) (.int .i64 0)) 2 = _ := (RegionOwn.T_put_ne (by decide)).trans (hfr.at (k := 2) (by kernel_rfl) rfl)
                      have e3z : RegionOwn.T (y.put (some 7) (.int .i64 0)) 3 = _ := (RegionOwn.T_put_ne (by decide)).trans (hfr.at (k := 3) (by kernel_rfl) rfl)
                      have e4z : RegionOwn.T (y.put (some 7) (.int .i64 0)) 4 = _ := (RegionOwn.T_put_ne (by decide)).trans (hfr.at (k := 4) (by kernel_rfl) rfl)
                      have e5z : RegionOwn.T (y.put (some 7) (.int .i64 0)) 5 = _ := (RegionOwn.T_put_ne (by decide)).trans (hfr.at (k := 5) (by kernel_rfl) rfl)
                      have e6z : RegionOwn.T (y.put (some 7) (.int .i64 0)) 6 = _ := (RegionOwn.T_put_ne (by decide)).trans (hfr.at (k := 6) (by kernel_rfl) rfl)
                      have e8z : RegionOwn.T (y.put (some 7) (.int .i64 0)) 8 = _ := (RegionOwn.T_put_ne (by decide)).trans (hfr.at (k := 8) (by kernel_rfl) rfl)
                      have e9z : RegionOwn.T (y.put (some 7) (.int .i64 0)) 9 = _ := (RegionOwn.T_put_ne (by decide)).trans (hfr.at (k := 9) (by kernel_rfl) rfl)
                      have e10z : RegionOwn.T (y.put (some 7) (.int .i64 0)) 10 = _ := (RegionOwn.T_put_ne (by decide)).trans (hfr.at (k := 10) (by kernel_rfl) rfl)
                      have e11z : RegionOwn.T (y.put (some 7) (.int .i64 0)) 11 = _ := (RegionOwn.T_put_ne (by decide)).trans (hfr.at (k := 11) (by kernel_rfl) rfl)
                      refine (RegionOwn.act_lit (y.put (some 7) (.int .i64 0)) 64 (by simp [Act.put, hsz])).trans ?_
                      show Act.mk (List.toArray [RegionOwn.T (y.put (some 7) (.int .i64 0)) 0, RegionOwn.T (y.put (some 7) (.int .i64 0)) 1, RegionOwn.T (y.put (some 7) (.int .i64 0)) 2, RegionOwn.T (y.put (some 7) (.int .i64 0)) 3, RegionOwn.T (y.put (some 7) (.int .i64 0)) 4, RegionOwn.T (y.put (some 7) (.int .i64 0)) 5, RegionOwn.T (y.put (some 7) (.int .i64 0)) 6, RegionOwn.T (y.put (some 7) (.int .i64 0)) 7, RegionOwn.T (y.put (some 7) (.int .i64 0)) 8, RegionOwn.T (y.put (some 7) (.int .i64 0)) 9, RegionOwn.T (y.put (some 7) (.int .i64 0)) 10, RegionOwn.T (y.put (some 7) (.int .i64 0)) 11, RegionOwn.T (y.put (some 7) (.int .i64 0)) 12, RegionOwn.T (y.put (some 7) (.int .i64 0)) 13, RegionOwn.T (y.put (some 7) (.int .i64 0)) 14, RegionOwn.T (y.put (some 7) (.int .i64 0)) 15, RegionOwn.T (y.put (some 7) (.int .i64 0)) 16, RegionOwn.T (y.put (some 7) (.int .i64 0)) 17, RegionOwn.T (y.put (some 7) (.int .i64 0)) 18, RegionOwn.T (y.put (some 7) (.int .i64 0)) 19, RegionOwn.T (y.put (some 7) (.int .i64 0)) 20, RegionOwn.T (y.put (some 7) (.int .i64 0)) 21, RegionOwn.T (y.put (some 7) (.int .i64 0)) 22, RegionOwn.T (y.put (some 7) (.int .i64 0)) 23, RegionOwn.T (y.put (some 7) (.int .i64 0)) 24, RegionOwn.T (y.put (some 7) (.int .i64 0)) 25, RegionOwn.T (y.put (some 7) (.int .i64 0)) 26, RegionOwn.T (y.put (some 7) (.int .i64 0)) 27, RegionOwn.T (y.put (some 7) (.int .i64 0)) 28, RegionOwn.T (y.put (some 7) (.int .i64 0)) 29, RegionOwn.T (y.put (some 7) (.int .i64 0)) 30, RegionOwn.T (y.put (some 7) (.int .i64 0)) 31, RegionOwn.T (y.put (some 7) (.int .i64 0)) 32, RegionOwn.T (y.put (some 7) (.int .i64 0)) 33, RegionOwn.T (y.put (some 7) (.int .i64 0)) 34, RegionOwn.T (y.put (some 7) (.int .i64 0)) 35, RegionOwn.T (y.put (some 7) (.int .i64 0)) 36, RegionOwn.T (y.put (some 7) (.int .i64 0)) 37, RegionOwn.T (y.put (some 7) (.int .i64 0)) 38, RegionOwn.T (y.put (some 7) (.int .i64 0)) 39, RegionOwn.T (y.put (some 7) (.int .i64 0)) 40, RegionOwn.T (y.put (some 7) (.int .i64 0)) 41, RegionOwn.T (y.put (some 7) (.int .i64 0)) 42, RegionOwn.T (y.put (some 7) (.int .i64 0)) 43, RegionOwn.T (y.put (some 7) (.int .i64 0)) 44, RegionOwn.T (y.put (some 7) (.int .i64 0)) 45, RegionOwn.T (y.put (some 7) (.int .i64 0)) 46, RegionOwn.T (y.put (some 7) (.int .i64 0)) 47, RegionOwn.T (y.put (some 7) (.int .i64 0)) 48, RegionOwn.T (y.put (some 7) (.int .i64 0)) 49, RegionOwn.T (y.put (some 7) (.int .i64 0)) 50, RegionOwn.T (y.put (some 7) (.int .i64 0)) 51, RegionOwn.T (y.put (some 7) (.int .i64 0)) 52, RegionOwn.T (y.put (some 7) (.int .i64 0)) 53, RegionOwn.T (y.put (some 7) (.int .i64 0)) 54, RegionOwn.T (y.put (some 7) (.int .i64 0)) 55, RegionOwn.T (y.put (some 7) (.int .i64 0)) 56, RegionOwn.T (y.put (some 7) (.int .i64 0)) 57, RegionOwn.T (y.put (some 7) (.int .i64 0)) 58, RegionOwn.T (y.put (some 7) (.int .i64 0)) 59, RegionOwn.T (y.put (some 7) (.int .i64 0)) 60, RegionOwn.T (y.put (some 7) (.int .i64 0)) 61, RegionOwn.T (y.put (some 7) (.int .i64 0)) 62, RegionOwn.T (y.put (some 7) (.int .i64 0)) 63]) y.defers = _
                      rw [e0z, e1z, e2z, e3z, e4z, e5z, e6z, e8z, e9z, e10z, e11z, hfr.defers]
                      rfl
                    case rel =>
                      refine ⟨RegionOwn.T_put_eq (by rw [hsz]; decide), E, hE, RefAt.set5 hRE xr _ _ _ _ _, below5 (HW.out.2.2.2.trans (hbx.mono HW.out.2.2.2.size)) (Nat.le_add_right _ 1) _ _ _ _ _, set5 xr _ _ _ _ _⟩
end Go.Proofs.Ytnjkahoaogeecaa
