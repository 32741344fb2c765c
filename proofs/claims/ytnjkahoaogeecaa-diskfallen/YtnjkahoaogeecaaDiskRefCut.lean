/- Contract: the document's disk behind a Truncate, or a Remove. -/
import Derived.Test.YtnjkahoaogeecaaDiskRefPut
namespace Go.Dk
open Go.RowKit
def A.cutOf (a : A) (name : Bs) (n : Int) (gone : Bool) : A × Int := if gone = true then a.doRemove name else a.doTrunc name n
theorem cut_able {a : A} {name : Bs} {n : Int} {gone : Bool} (h : ableOf a name ≠ 0) : a.cutOf name n gone = (a, ableOf a name) := by
  unfold A.cutOf A.doRemove A.doTrunc
  rw [if_pos h, if_pos h]
  split <;> rfl
theorem cut_none {a : A} {name : Bs} {n : Int} {gone : Bool} (h : ableOf a name = 0) (hs : seek AF.name name a.files = none) : a.cutOf name n gone = (a, 2) := by
  unfold A.cutOf A.doRemove A.doTrunc
  cases gone <;> simp [h, hs]
theorem cut_gone {a : A} {name : Bs} {n : Int} {f : AF} (h : ableOf a name = 0) (hs : seek AF.name name a.files = some f) : a.cutOf name n true = a.change (a.left (del AF.name name a.files)) := by
  unfold A.cutOf A.doRemove
  rw [if_pos rfl, if_neg (by simpa using h), hs]
theorem cut_to {a : A} {name : Bs} {n : Int} {f : AF} (h : ableOf a name = 0) (hs : seek AF.name name a.files = some f) : a.cutOf name n false = if n < 0 ∨ (f.bytes.length : Int) < n then (a, 1) else a.change (a.left (ins AF.name (f.settle (f.bytes.take n.toNat)) a.files)) := by
  unfold A.cutOf A.doTrunc
  rw [if_neg (by decide), if_neg (by simpa using h), hs]
theorem struck_hit {a b : A} {f : Fall} (h : a.hit = some f) : a.change b = a.struck := by
  unfold A.change A.struck
  rw [h]
theorem struck_calm {a b : A} (h : a.hit = none) : a.change b = (b, 0) := by
  unfold A.change
  rw [h]
end Go.Dk
namespace Go.QuietCalls
open Go.RowKit Go.Sort
theorem call3 {P : Program} {ops : Array Oper} {W : World} {Q : Act → Prop} {rest : List Oper} {o : Oper} {a : Act} {f : FuncId} {x y z : Operand} {ts : Array TypeId} {u u' u'' v : Value} (hgd : Region.wanted o (yielded ops a.tmps) = true)
    (ho : o.op = .call { callee := .value (.func f), args := #[x, y, z], argTypes := ts }) (hf : ∀ args w, (callFunc f args).run P w = .ok (.enter f args) w)
    (hc : ∀ w, Below W.heap.size W w → Calls P f #[u, u', u''] w fun e w' => e = .returned v ∧ Below w.heap.size w w') (hx : a.eval x = u) (hy : a.eval y = u') (hz : a.eval z = u'')
    (h : wpQuiet P ops (fun w' => ∃ p : Regrown, w' = grow (redrawn W p.d) p.os) Q rest (a.put o.dst v)) : wpQuiet P ops (fun w' => ∃ p : Regrown, w' = grow (redrawn W p.d) p.os) Q (o :: rest) a :=
  call hgd f _ v hc (fun w => by
    subst hx hy hz
    rw [← hf]
    obtain ⟨dst, op, ty, pos, after, gd⟩ := o
    dsimp only at ho
    subst ho
    show (callFunc f (#[] ++ #[x, y, z].map a.eval ++ #[])).run P w = _
    simp) h
end Go.QuietCalls
namespace Go.Proofs.Ytnjkahoaogeecaa
open Go.RowKit Go.Dk
/-- What a strike leaves, told by the disk's cells. -/
theorem rstrike_lit (K : Nat) (D : RD) (w : World) (h : RefAt K w D) (hK1 : K + 1 ≤ 100000) (hd : D.a.down = false) {fa la : Option Addr} {fc lc : Nat} (hfv : D.fv = .slice fa D.rs.length fc) (hlv : D.lv = .slice la (flen D.a.fall) lc) :
    Calls Try.prog 68 #[.agg #[.slice fa D.rs.length fc, .int .i64 D.a.room, .slice la (flen D.a.fall) lc, .int .i64 D.a.changes, .bool false]] w fun e w' => ∃ D' : RD, e = .returned (.tuple #[D'.v, .int .i64 D.a.struck.2]) ∧ D'.a = D.a.struck.1 ∧ RefAt (K + 1) w' D' ∧ Below w.heap.size w w' ∧ (D.a.hit = none → D'.v = .agg #[.slice fa D.rs.length fc, .int .i64 D.a.room, .slice la (flen D.a.fall) lc, .int .i64 ((D.a.changes : Int) + 1), .bool false]) := by
  have HV : D.v = .agg #[.slice fa D.rs.length fc, .int .i64 D.a.room, .slice la (flen D.a.fall) lc, .int .i64 D.a.changes, .bool false] := by unfold RD.v RD.cs; rw [hfv, hlv, hd]
  rw [← HV]
  refine (rstrike_any K D w h hK1).mono ?_
  rintro e w' ⟨D', he, ha, hr', hb', hc⟩
  refine ⟨D', he, ha, hr', hb', fun hit => ?_⟩
  rw [hc hit]
  unfold RD.v RD.cs
  rw [← hfv, ← hlv, ← hd]
  rfl
set_option maxRecDepth 100000 in
set_option maxHeartbeats 4000000 in
theorem rcut_any (K : Nat) (D : RD) (name : ByteArray) (n : Int) (gone : Bool) (w : World) (h : RefAt K w D) (hK1 : K + 1 ≤ 100000) (hn : name.size ≤ maxLen) :
    Calls Try.prog 56 #[D.v, .string name, .int .i64 n, .bool gone] w fun e w' => ∃ D' : RD, e = .returned (.tuple #[D'.v, .int .i64 (D.a.cutOf name.data.toList n gone).2]) ∧ D'.a = (D.a.cutOf name.data.toList n gone).1 ∧ RefAt (K + 1) w' D' ∧ Below w.heap.size w w' := by
  obtain ⟨la, lc, hlv⟩ := Sees.form h.falls
  obtain ⟨fa, fc, hfv⟩ := Sees.form h.files
  generalize hR : D.a.cutOf name.data.toList n gone = R
  have HV : D.v = .agg #[.slice fa D.rs.length fc, .int .i64 D.a.room, .slice la (flen D.a.fall) lc, .int .i64 D.a.changes, .bool D.a.down] := by unfold RD.v RD.cs; rw [hfv, hlv]
  generalize hX : (fun (e : Ending) (w' : World) => ∃ D' : RD, e = .returned (.tuple #[D'.v, .int .i64 R.2]) ∧ D'.a = R.1 ∧ RefAt (K + 1) w' D' ∧ Below w.heap.size w w') = X
  have HSAME : Hid (∀ w' c, Below w.heap.size w w' → R = (D.a, c) → X (.returned (.tuple #[.agg #[.slice fa D.rs.length fc, .int .i64 D.a.room, .slice la (flen D.a.fall) lc, .int .i64 D.a.changes, .bool D.a.down], .int .i64 c])) w') := fun w' c hb he => by
    rw [← hX, he, ← HV]
    exact ⟨D, rfl, rfl, (h.below hb).mono (Nat.le_succ K) hK1, hb⟩
  have HEND : Hid (∀ w' (D' : RD), D'.a = R.1 → RefAt (K + 1) w' D' → Below w.heap.size w w' → X (.returned (.tuple #[D'.v, .int .i64 R.2])) w') := fun w' D' ha hr hb => by
    rw [← hX]
    exact ⟨D', rfl, ha, hr, hb⟩
  clear hX
  have HFIND : Hid (∀ w1, Below w.heap.size w w1 → Calls Try.prog 67 #[.agg #[.slice fa D.rs.length fc, .int .i64 D.a.room, .slice la (flen D.a.fall) lc, .int .i64 D.a.changes, .bool D.a.down], .string name] w1 fun e w' => e = .returned (.tuple #[.int .i64 (place RF.nm name.data.toList D.rs : Nat), .bool (seek RF.nm name.data.toList D.rs).isSome]) ∧ Below w1.heap.size w1 w') := fun w1 hb => by
    rw [← HV]
    exact rfind_any K D name w1 (h.below hb)
  have HNM : Hid (∀ w1, Calls Try.prog 26 #[.string name] w1 fun e w' => e = .returned (.bool (nameOk name.data.toList)) ∧ w' = w1) := fun w1 => rname_any name w1 hn
  rw [HV]
  have HSK : Hid ((seek RF.nm name.data.toList D.rs).map RF.a = seek AF.name name.data.toList D.a.files) := by
    rw [← h.same]
    exact map_seek (na := RF.nm) (nb := AF.name) RF.a (fun _ => rfl) name.data.toList D.rs
  cases hd : D.a.down with
  | true =>
    have he : R = (D.a, 7) := by
      rw [← hR, cut_able (by unfold ableOf; simp [hd])]
      unfold ableOf
      rw [hd]
      rfl
    rw [hd] at HFIND HSAME
    generalize place RF.nm name.data.toList D.rs = pl at *
    generalize (seek RF.nm name.data.toList D.rs).isSome = is at *
    clear h hR HEND HV
    replace HSAME := hide (fun w' hb => HSAME.out w' 7 hb he)
    clear he
    go_enter Try.func56, Try.ntmps56
    go_wp2_with (first | (go_at_call 67; refine (HFIND.out _ (two_below (Below.refl _ _)).2.2).mono ?_; rintro e w1 ⟨rfl, k1⟩; obtain ⟨x4, x8, kb⟩ := two_below k1; obtain ⟨c0, c1, c2, c3, c4⟩ := cells5 x4; obtain ⟨d0, d1, d2, d3, d4⟩ := cells5 x8; obtain ⟨f0, f1, f2, f3, f4⟩ := frozen5 x8; have HR := hide (And.intro x4 (And.intro x8 kb)); clear x4 x8 kb k1) | (go_at_call 26; refine (HNM.out _).mono ?_; rintro e w1 ⟨rfl, rfl⟩))
    exact bodyPost_ret (results_cell2_row Try.results56 _ _ _ 27 _ (0, 0) _ rfl (set5 HR.out.2.1 _ _ _ _ _) Try.underlying27 rfl infoDisk) rfl (HSAME.out _ (below5 HR.out.2.2 (Nat.le_add_right _ 1) _ _ _ _ _))
  | false =>
    rw [hd] at HFIND HSAME
    cases hok : nameOk name.data.toList with
    | false =>
      have he : R = (D.a, 60) := by
        rw [← hR, cut_able (by unfold ableOf; rw [hd, hok]; decide)]
        unfold ableOf
        rw [hd, hok]
        rfl
      rw [hok] at HNM
      generalize place RF.nm name.data.toList D.rs = pl at *
      generalize (seek RF.nm name.data.toList D.rs).isSome = is at *
      clear h hR HEND HV hok
      replace HSAME := hide (fun w' hb => HSAME.out w' 60 hb he)
      clear he
      go_enter Try.func56, Try.ntmps56
      go_wp2_with (first | (go_at_call 67; refine (HFIND.out _ (two_below (Below.refl _ _)).2.2).mono ?_; rintro e w1 ⟨rfl, k1⟩; obtain ⟨x4, x8, kb⟩ := two_below k1; obtain ⟨c0, c1, c2, c3, c4⟩ := cells5 x4; obtain ⟨d0, d1, d2, d3, d4⟩ := cells5 x8; obtain ⟨f0, f1, f2, f3, f4⟩ := frozen5 x8; have HR := hide (And.intro x4 (And.intro x8 kb)); clear x4 x8 kb k1) | (go_at_call 26; refine (HNM.out _).mono ?_; rintro e w1 ⟨rfl, rfl⟩))
      exact bodyPost_ret (results_cell2_row Try.results56 _ _ _ 27 _ (0, 0) _ rfl (set5 HR.out.2.1 _ _ _ _ _) Try.underlying27 rfl infoDisk) rfl (HSAME.out _ (below5 HR.out.2.2 (Nat.le_add_right _ 1) _ _ _ _ _))
    | true =>
      have hable : ableOf D.a name.data.toList = 0 := by unfold ableOf; rw [hd, hok]; rfl
      rw [hok] at HNM
      cases hsk : seek RF.nm name.data.toList D.rs with
      | none =>
        have he : R = (D.a, 2) := by
          rw [← hR, cut_none hable (by rw [← HSK.out, hsk]; rfl)]
        rw [hsk] at HFIND
        generalize place RF.nm name.data.toList D.rs = pl at *
        clear h hR HEND HV hok hsk HSK hable
        replace HSAME := hide (fun w' hb => HSAME.out w' 2 hb he)
        clear he
        go_enter Try.func56, Try.ntmps56
        go_wp2_with (first | (go_at_call 67; refine (HFIND.out _ (two_below (Below.refl _ _)).2.2).mono ?_; rintro e w1 ⟨rfl, k1⟩; obtain ⟨x4, x8, kb⟩ := two_below k1; obtain ⟨c0, c1, c2, c3, c4⟩ := cells5 x4; obtain ⟨d0, d1, d2, d3, d4⟩ := cells5 x8; obtain ⟨f0, f1, f2, f3, f4⟩ := frozen5 x8; have HR := hide (And.intro x4 (And.intro x8 kb)); clear x4 x8 kb k1) | (go_at_call 26; refine (HNM.out _).mono ?_; rintro e w1 ⟨rfl, rfl⟩))
        exact bodyPost_ret (results_cell2_row Try.results56 _ _ _ 27 _ (0, 0) _ rfl (set5 HR.out.2.1 _ _ _ _ _) Try.underlying27 rfl infoDisk) rfl (HSAME.out _ (below5 HR.out.2.2 (Nat.le_add_right _ 1) _ _ _ _ _))
      | some r =>
        have hsk' : seek AF.name name.data.toList D.a.files = some r.a := by rw [← HSK.out, hsk]; rfl
        obtain ⟨hat, hatl⟩ := place_seek h.rises hsk
        have hrm := (seek_some hsk).1
        have hrp := h.puts r hrm
        have hrs := h.small r hrm
        obtain ⟨b, off, cap, hv, hcap, hbw, q0, q1, q2, q3⟩ := h.files.file hat
        rw [hfv] at hv
        obtain ⟨pa, pc, hpv⟩ := Sees.form hrp
        rw [hpv] at q3
        unfold txt at q0 q1
        have hbl := hrs.bytes
        have hpl := hrs.puts
        have HBYTES : Hid (∀ w1, Below w.heap.size w w1 → Calls Try.prog 36 #[.agg #[.string ⟨r.a.name.toArray⟩, .string ⟨r.a.sure.toArray⟩, .bool r.a.settled, .slice pa r.a.puts.length pc]] w1 fun e w' => e = .returned (.string ⟨r.a.bytes.toArray⟩) ∧ Below w1.heap.size w1 w') := fun w1 hb => by
          have := rbytes_any r w1 (Sees.below hrp hb) (by omega) (hrs.after (by omega))
          unfold RF.v RF.cs txt at this
          rw [hpv] at this
          exact this
        have HSTRIKE : Hid (∀ w1, Below w.heap.size w w1 → Calls Try.prog 68 #[.agg #[.slice fa D.rs.length fc, .int .i64 D.a.room, .slice la (flen D.a.fall) lc, .int .i64 D.a.changes, .bool false]] w1 fun e w' => ∃ D' : RD, e = .returned (.tuple #[D'.v, .int .i64 D.a.struck.2]) ∧ D'.a = D.a.struck.1 ∧ RefAt (K + 1) w' D' ∧ Below w1.heap.size w1 w' ∧ (D.a.hit = none → D'.v = .agg #[.slice fa D.rs.length fc, .int .i64 D.a.room, .slice la (flen D.a.fall) lc, .int .i64 ((D.a.changes : Int) + 1), .bool false])) := fun w1 hb => rstrike_lit K D w1 (h.below hb) hK1 hd hfv hlv
        have HSTR : Hid ((D.a.hit = none → D.a.struck.2 = 0) ∧ ∀ f, D.a.hit = some f → D.a.struck.2 = 7) := ⟨fun e => by unfold A.struck; rw [e], fun f e => by unfold A.struck; rw [e]⟩
        have HD1 : Hid (∀ w1, Below w.heap.size w w1 → RefAt (K + 1) w1 ⟨{ D.a with changes := D.a.changes + 1 }, D.fv, D.lv, D.rs⟩ ∧ RD.v ⟨{ D.a with changes := D.a.changes + 1 }, D.fv, D.lv, D.rs⟩ = .agg #[.slice fa D.rs.length fc, .int .i64 D.a.room, .slice la (flen D.a.fall) lc, .int .i64 ((D.a.changes : Int) + 1), .bool false]) := fun w1 hb => by
          have h' := (h.below hb).mono (Nat.le_succ K) hK1
          refine ⟨⟨h'.files, h'.puts, h'.same, h'.falls, h'.rises, h'.small, h'.count, Nat.succ_le_succ h.chg, hK1⟩, ?_⟩
          unfold RD.v RD.cs
          rw [← hfv, ← hlv, ← hd]
          rfl
        have hcnt := h.count
        rw [hsk] at HFIND
        generalize hpl' : place RF.nm name.data.toList D.rs = pl at *
        have hz := txt_size r.a.bytes
        have hbl2 : r.a.bytes.length ≤ 10000000 := by omega
        have hn63 : name.size ≤ 9223372036854775807 := hn
        cases hg : gone with
        | true =>
          rw [hg] at hR
          rw [cut_gone hable hsk'] at hR
          have HWO : Hid (∀ w1, Below w.heap.size w w1 → Calls Try.prog 70 #[.agg #[.slice fa D.rs.length fc, .int .i64 D.a.room, .slice la (flen D.a.fall) lc, .int .i64 ((D.a.changes : Int) + 1), .bool false], .string name] w1 fun e w' => ∃ D' : RD, e = .returned D'.v ∧ D'.a = D.a.left (del AF.name name.data.toList D.a.files) ∧ RefAt (K + 1) w' D' ∧ Below w1.heap.size w1 w') := fun w1 hb => by
            rw [← (HD1.out w1 hb).2]
            refine (rwithout_any (K + 1) _ name w1 (HD1.out w1 hb).1).mono ?_
            rintro e w' ⟨fv, he, hr', hb'⟩
            exact ⟨_, he, rfl, hr', hb'⟩
          clear h hok hsk hsk' hat hable HD1 HSAME hpv hrp hrs HV hfv hlv
          unfold RD.v RD.cs at HSTRIKE HEND HWO
          cases hv
          go_enter Try.func56, Try.ntmps56
          go_upto_region 8 with (first | (go_at_call 67; refine (HFIND.out _ (two_below (Below.refl _ _)).2.2).mono ?_; rintro e w1 ⟨rfl, k1⟩; obtain ⟨x4, x8, kb⟩ := two_below k1; obtain ⟨c0, c1, c2, c3, c4⟩ := cells5 x4; obtain ⟨d0, d1, d2, d3, d4⟩ := cells5 x8; obtain ⟨f0, f1, f2, f3, f4⟩ := frozen5 x8; have HR := hide (And.intro x4 (And.intro x8 kb)); clear x4 x8 kb k1) | (go_at_call 26; refine (HNM.out _).mono ?_; rintro e w1 ⟨rfl, rfl⟩))
          have e : ∀ k u, w.cell? ⟨b, k, none⟩ = some u → w1.cell? ⟨b, k, none⟩ = some u := fun k u hu => (HR.out.2.2.cell (p := ⟨b, k, none⟩) hbw).trans hu
          have q0' := e _ _ q0
          have q1' := e _ _ q1
          have q2' := e _ _ q2
          have q3' := e _ _ q3
          have hb12 : Hid (w.heap.size + 1 < w1.heap.size) := block_lt HR.out.2.1
          clear e q0 q1 q2 q3 d0 d1 d2 d3 d4 f0 f1 f2 f3 f4
          have kx : Below w1.heap.size w1 (w1.alloc (.cells #[.string ⟨r.a.name.toArray⟩, .string ⟨r.a.sure.toArray⟩, .bool r.a.settled, .slice pa r.a.puts.length pc] 52)) := (Below.refl _ _).alloc (Nat.le_refl _) _
          have HR1 := hide (And.intro (row_kept HR.out.1 kx) (And.intro (row_kept HR.out.2.1 kx) (And.intro (heap_alloc_new w1 (.cells #[.string ⟨r.a.name.toArray⟩, .string ⟨r.a.sure.toArray⟩, .bool r.a.settled, .slice pa r.a.puts.length pc] 52)) (HR.out.2.2.trans (kx.mono HR.out.2.2.size)))))
          clear kx HR
          go_upto_region 10 with (go_at_call 36; refine (HBYTES.out _ HR1.out.2.2.2).mono ?_; rintro e w2 ⟨rfl, k2⟩; have HR2 := hide (And.intro (row_kept HR1.out.1 k2) (And.intro (row_kept HR1.out.2.1 k2) (And.intro (row_kept HR1.out.2.2.1 k2) (HR1.out.2.2.2.trans (k2.mono HR1.out.2.2.2.size))))); clear k2; obtain ⟨c0, c1, c2, c3, c4⟩ := cells5 HR2.out.1; obtain ⟨g0, g1, g2, g3, g4⟩ := frozen5 HR2.out.1; obtain ⟨d0, d1, d2, d3, d4⟩ := cells5 HR2.out.2.1; obtain ⟨f0, f1, f2, f3, f4⟩ := frozen5 HR2.out.2.1)
          cases hit : D.a.hit with
          | some f =>
            rw [struck_hit hit] at hR
            have hst := HSTR.out.2 f hit
            rw [hst] at HSTRIKE
            have hR2 : R.2 = 7 := by rw [← hR]; exact hst
            rw [hR2] at HEND
            clear hst hR2
            go_wp2_with (go_at_call 68; refine (HSTRIKE.out _ HR2.out.2.2.2).mono ?_; rintro e w3 ⟨D', rfl, ha, hr', k3, hdv⟩; obtain ⟨fa', fc', hfv'⟩ := Sees.form hr'.files; obtain ⟨la', lc', hlv'⟩ := Sees.form hr'.falls; have HR3 := hide (And.intro (row_kept HR2.out.1 k3) (And.intro (row_kept HR2.out.2.1 k3) (And.intro (row_kept HR2.out.2.2.1 k3) (And.intro (HR2.out.2.2.2.trans (k3.mono HR2.out.2.2.2.size)) (And.intro ha hr'))))); clear ha hr' k3 hdv; obtain ⟨c0, c1, c2, c3, c4⟩ := cells5 HR3.out.1; obtain ⟨g0, g1, g2, g3, g4⟩ := frozen5 HR3.out.1; obtain ⟨d0, d1, d2, d3, d4⟩ := cells5 HR3.out.2.1; obtain ⟨f0, f1, f2, f3, f4⟩ := frozen5 HR3.out.2.1)
            have z6 := set5_kept HR3.out.2.1 (by omega : w.heap.size + 1 ≠ w.heap.size) (Value.slice fa' D'.rs.length fc') (.int .i64 D'.a.room) (.slice la' (flen D'.a.fall) lc') (.int .i64 D'.a.changes) (.bool D'.a.down)
            have zb := below5 HR3.out.2.2.2.1 (Nat.le_refl _) (Value.slice fa' D'.rs.length fc') (.int .i64 D'.a.room) (.slice la' (flen D'.a.fall) lc') (.int .i64 D'.a.changes) (.bool D'.a.down)
            have zr := RefAt.set5 HR3.out.2.2.2.2.2 HR3.out.1 (Value.slice fa' D'.rs.length fc') (.int .i64 D'.a.room) (.slice la' (flen D'.a.fall) lc') (.int .i64 D'.a.changes) (.bool D'.a.down)
            refine bodyPost_ret (results_cell2_row Try.results56 _ _ _ 27 _ (0, 0) _ rfl (set5 z6 _ _ _ _ _) Try.underlying27 rfl infoDisk) rfl ?_
            have := HEND.out _ D' (by rw [← hR]; exact HR3.out.2.2.2.2.1) (RefAt.set5 zr z6 (Value.slice fa' D'.rs.length fc') (.int .i64 D'.a.room) (.slice la' (flen D'.a.fall) lc') (.int .i64 D'.a.changes) (.bool D'.a.down)) (below5 zb (Nat.le_add_right _ 1) _ _ _ _ _)
            rw [hfv', hlv'] at this
            exact this
          | none =>
            rw [struck_calm hit] at hR
            have hst := HSTR.out.1 hit
            rw [hst] at HSTRIKE
            have hR2 : R.2 = 0 := by rw [← hR]
            rw [hR2] at HEND
            clear hst hR2
            go_wp2_with (first
              | (go_at_call 68; refine (HSTRIKE.out _ HR2.out.2.2.2).mono ?_; rintro e w3 ⟨D', rfl, ha, hr', k3, hdv⟩; rw [hdv hit]; have HR3 := hide (And.intro (row_kept HR2.out.1 k3) (And.intro (row_kept HR2.out.2.1 k3) (And.intro (row_kept HR2.out.2.2.1 k3) (HR2.out.2.2.2.trans (k3.mono HR2.out.2.2.2.size))))); clear ha hr' k3 hdv; obtain ⟨c0, c1, c2, c3, c4⟩ := cells5 HR3.out.1; obtain ⟨g0, g1, g2, g3, g4⟩ := frozen5 HR3.out.1; obtain ⟨d0, d1, d2, d3, d4⟩ := cells5 HR3.out.2.1; obtain ⟨f0, f1, f2, f3, f4⟩ := frozen5 HR3.out.2.1)
              | (go_at_call 70; refine (HWO.out _ (below5 HR3.out.2.2.2 (Nat.le_refl _) _ _ _ _ _)).mono ?_; rintro e w4 ⟨D2, rfl, ha2, hr2, k4⟩; obtain ⟨fa', fc', hfv'⟩ := Sees.form hr2.files; obtain ⟨la', lc', hlv'⟩ := Sees.form hr2.falls; have HR4 := hide (And.intro (row_kept (set5_kept HR3.out.2.1 (by omega : w.heap.size + 1 ≠ w.heap.size) _ _ _ _ _) k4) (And.intro ((below5 HR3.out.2.2.2 (Nat.le_refl _) _ _ _ _ _).trans (k4.mono (below5 HR3.out.2.2.2 (Nat.le_refl _) _ _ _ _ _).size)) (And.intro ha2 hr2))); clear ha2 hr2 k4; obtain ⟨d0, d1, d2, d3, d4⟩ := cells5 HR4.out.1; obtain ⟨f0, f1, f2, f3, f4⟩ := frozen5 HR4.out.1))
            refine bodyPost_ret (results_cell2_row Try.results56 _ _ _ 27 _ (0, 0) _ rfl (set5 HR4.out.1 _ _ _ _ _) Try.underlying27 rfl infoDisk) rfl ?_
            have := HEND.out _ D2 (by rw [← hR]; exact HR4.out.2.2.1) (RefAt.set5 HR4.out.2.2.2 HR4.out.1 (Value.slice fa' D2.rs.length fc') (.int .i64 D2.a.room) (.slice la' (flen D2.a.fall) lc') (.int .i64 D2.a.changes) (.bool D2.a.down)) (below5 HR4.out.2.1 (Nat.le_add_right _ 1) _ _ _ _ _)
            rw [hfv', hlv'] at this
            exact this
        | false =>
          rw [hg] at hR
          rw [cut_to hable hsk'] at hR
          by_cases hbad : n < 0 ∨ (r.a.bytes.length : Int) < n
          · rw [if_pos hbad] at hR
            replace HSAME := hide (fun w' hb => HSAME.out w' 1 hb hR.symm)
            clear h hok hsk hsk' hat hable HD1 hpv hrp hrs HV hfv hlv HSTRIKE HEND hR
            cases hv
            go_enter Try.func56, Try.ntmps56
            go_upto_region 8 with (first | (go_at_call 67; refine (HFIND.out _ (two_below (Below.refl _ _)).2.2).mono ?_; rintro e w1 ⟨rfl, k1⟩; obtain ⟨x4, x8, kb⟩ := two_below k1; obtain ⟨c0, c1, c2, c3, c4⟩ := cells5 x4; obtain ⟨d0, d1, d2, d3, d4⟩ := cells5 x8; obtain ⟨f0, f1, f2, f3, f4⟩ := frozen5 x8; have HR := hide (And.intro x4 (And.intro x8 kb)); clear x4 x8 kb k1) | (go_at_call 26; refine (HNM.out _).mono ?_; rintro e w1 ⟨rfl, rfl⟩))
            have e : ∀ k u, w.cell? ⟨b, k, none⟩ = some u → w1.cell? ⟨b, k, none⟩ = some u := fun k u hu => (HR.out.2.2.cell (p := ⟨b, k, none⟩) hbw).trans hu
            have q0' := e _ _ q0
            have q1' := e _ _ q1
            have q2' := e _ _ q2
            have q3' := e _ _ q3
            have hb12 : Hid (w.heap.size + 1 < w1.heap.size) := block_lt HR.out.2.1
            clear e q0 q1 q2 q3 d0 d1 d2 d3 d4 f0 f1 f2 f3 f4
            have kx : Below w1.heap.size w1 (w1.alloc (.cells #[.string ⟨r.a.name.toArray⟩, .string ⟨r.a.sure.toArray⟩, .bool r.a.settled, .slice pa r.a.puts.length pc] 52)) := (Below.refl _ _).alloc (Nat.le_refl _) _
            have HR1 := hide (And.intro (row_kept HR.out.1 kx) (And.intro (row_kept HR.out.2.1 kx) (And.intro (heap_alloc_new w1 (.cells #[.string ⟨r.a.name.toArray⟩, .string ⟨r.a.sure.toArray⟩, .bool r.a.settled, .slice pa r.a.puts.length pc] 52)) (HR.out.2.2.trans (kx.mono HR.out.2.2.size)))))
            clear kx HR
            go_upto_region 10 with (go_at_call 36; refine (HBYTES.out _ HR1.out.2.2.2).mono ?_; rintro e w2 ⟨rfl, k2⟩; have HR2 := hide (And.intro (row_kept HR1.out.1 k2) (And.intro (row_kept HR1.out.2.1 k2) (And.intro (row_kept HR1.out.2.2.1 k2) (HR1.out.2.2.2.trans (k2.mono HR1.out.2.2.2.size))))); clear k2; obtain ⟨c0, c1, c2, c3, c4⟩ := cells5 HR2.out.1; obtain ⟨g0, g1, g2, g3, g4⟩ := frozen5 HR2.out.1; obtain ⟨d0, d1, d2, d3, d4⟩ := cells5 HR2.out.2.1; obtain ⟨f0, f1, f2, f3, f4⟩ := frozen5 HR2.out.2.1)
            by_cases hn0 : n < 0
            · have hb1 : decide (n < 0) = true := decide_eq_true hn0
              go_wp2
              exact bodyPost_ret (results_cell2_row Try.results56 _ _ _ 27 _ (0, 0) _ rfl (set5 HR2.out.2.1 _ _ _ _ _) Try.underlying27 rfl infoDisk) rfl (HSAME.out _ (below5 HR2.out.2.2.2 (Nat.le_add_right _ 1) _ _ _ _ _))
            · have hb1 : decide (n < 0) = false := decide_eq_false hn0
              have hb2 : (r.a.bytes.length : Int) < n := by omega
              go_wp2
              exact bodyPost_ret (results_cell2_row Try.results56 _ _ _ 27 _ (0, 0) _ rfl (set5 HR2.out.2.1 _ _ _ _ _) Try.underlying27 rfl infoDisk) rfl (HSAME.out _ (below5 HR2.out.2.2.2 (Nat.le_add_right _ 1) _ _ _ _ _))
          · rw [if_neg hbad] at hR
            have hn0 : 0 ≤ n := by omega
            have hn1 : n ≤ (r.a.bytes.length : Int) := by omega
            have hnm : (⟨name.data.toList.toArray⟩ : ByteArray) = name := by obtain ⟨⟨l⟩⟩ := name; rfl
            have HSET : Hid (∀ w1, Calls Try.prog 71 #[.agg #[.string ⟨r.a.name.toArray⟩, .string ⟨r.a.sure.toArray⟩, .bool r.a.settled, .slice pa r.a.puts.length pc], .string name, .string ⟨(r.a.bytes.take n.toNat).toArray⟩] w1 fun e w' => e = .returned (.agg #[.string name, .string ⟨(r.a.bytes.take n.toNat).toArray⟩, .bool true, .slice none 0 0]) ∧ Below w1.heap.size w1 w') := fun w1 => by
              have := rsettled_any r name.data.toList (r.a.bytes.take n.toNat) w1 ⟨_, _, _, hpv⟩
              unfold RF.v RF.cs txt at this
              rw [hpv, hnm] at this
              exact this
            have HWI : Hid (∀ w1, Below w.heap.size w w1 → Calls Try.prog 69 #[.agg #[.slice fa D.rs.length fc, .int .i64 D.a.room, .slice la (flen D.a.fall) lc, .int .i64 ((D.a.changes : Int) + 1), .bool false], .agg #[.string name, .string ⟨(r.a.bytes.take n.toNat).toArray⟩, .bool true, .slice none 0 0]] w1 fun e w' => ∃ D' : RD, e = .returned D'.v ∧ D'.a = D.a.left (ins AF.name (r.a.settle (r.a.bytes.take n.toNat)) D.a.files) ∧ RefAt (K + 1) w' D' ∧ Below w1.heap.size w1 w') := fun w1 hb => by
              rw [← (HD1.out w1 hb).2]
              have hnr : r.a.name = name.data.toList := (seek_some hsk).2
              have hsm : Small (K + 1) (r.a.settle (r.a.bytes.take n.toNat)) := (hrs.mono (Nat.le_succ K)).settle _ (by rw [List.length_take]; omega)
              have := rwith_any (K + 1) _ ⟨r.a.settle (r.a.bytes.take n.toNat), .slice none 0 0⟩ w1 (HD1.out w1 hb).1 ⟨rfl, .inl ⟨rfl, rfl⟩⟩ hsm (Nat.lt_succ_of_le hcnt)
              unfold RF.v RF.cs txt AF.settle at this
              rw [hnr, hnm] at this
              refine this.mono ?_
              rintro e w' ⟨fv, he, hr', hb'⟩
              exact ⟨_, he, by unfold AF.settle; rw [hnr]; rfl, hr', hb'⟩
            clear h hok hsk hsk' hat hable HD1 HSAME hpv hrp hrs HV hfv hlv hbad
            unfold RD.v RD.cs at HSTRIKE HEND HWI
            cases hv
            go_enter Try.func56, Try.ntmps56
            go_upto_region 8 with (first | (go_at_call 67; refine (HFIND.out _ (two_below (Below.refl _ _)).2.2).mono ?_; rintro e w1 ⟨rfl, k1⟩; obtain ⟨x4, x8, kb⟩ := two_below k1; obtain ⟨c0, c1, c2, c3, c4⟩ := cells5 x4; obtain ⟨d0, d1, d2, d3, d4⟩ := cells5 x8; obtain ⟨f0, f1, f2, f3, f4⟩ := frozen5 x8; have HR := hide (And.intro x4 (And.intro x8 kb)); clear x4 x8 kb k1) | (go_at_call 26; refine (HNM.out _).mono ?_; rintro e w1 ⟨rfl, rfl⟩))
            have e : ∀ k u, w.cell? ⟨b, k, none⟩ = some u → w1.cell? ⟨b, k, none⟩ = some u := fun k u hu => (HR.out.2.2.cell (p := ⟨b, k, none⟩) hbw).trans hu
            have q0' := e _ _ q0
            have q1' := e _ _ q1
            have q2' := e _ _ q2
            have q3' := e _ _ q3
            have hb12 : Hid (w.heap.size + 1 < w1.heap.size) := block_lt HR.out.2.1
            clear e q0 q1 q2 q3 d0 d1 d2 d3 d4 f0 f1 f2 f3 f4
            have kx : Below w1.heap.size w1 (w1.alloc (.cells #[.string ⟨r.a.name.toArray⟩, .string ⟨r.a.sure.toArray⟩, .bool r.a.settled, .slice pa r.a.puts.length pc] 52)) := (Below.refl _ _).alloc (Nat.le_refl _) _
            have HR1 := hide (And.intro (row_kept HR.out.1 kx) (And.intro (row_kept HR.out.2.1 kx) (And.intro (heap_alloc_new w1 (.cells #[.string ⟨r.a.name.toArray⟩, .string ⟨r.a.sure.toArray⟩, .bool r.a.settled, .slice pa r.a.puts.length pc] 52)) (HR.out.2.2.trans (kx.mono HR.out.2.2.size)))))
            clear kx HR
            go_upto_region 10 with (go_at_call 36; refine (HBYTES.out _ HR1.out.2.2.2).mono ?_; rintro e w2 ⟨rfl, k2⟩; have HR2 := hide (And.intro (row_kept HR1.out.1 k2) (And.intro (row_kept HR1.out.2.1 k2) (And.intro (row_kept HR1.out.2.2.1 k2) (HR1.out.2.2.2.trans (k2.mono HR1.out.2.2.2.size))))); clear k2; obtain ⟨c0, c1, c2, c3, c4⟩ := cells5 HR2.out.1; obtain ⟨g0, g1, g2, g3, g4⟩ := frozen5 HR2.out.1; obtain ⟨d0, d1, d2, d3, d4⟩ := cells5 HR2.out.2.1; obtain ⟨f0, f1, f2, f3, f4⟩ := frozen5 HR2.out.2.1)
            have hb1 : decide (n < 0) = false := decide_eq_false (by omega)
            cases hit : D.a.hit with
            | some f =>
              rw [struck_hit hit] at hR
              have hst := HSTR.out.2 f hit
              rw [hst] at HSTRIKE
              have hR2 : R.2 = 7 := by rw [← hR]; exact hst
              rw [hR2] at HEND
              clear hst hR2
              go_wp2_with (go_at_call 68; refine (HSTRIKE.out _ HR2.out.2.2.2).mono ?_; rintro e w3 ⟨D', rfl, ha, hr', k3, hdv⟩; obtain ⟨fa', fc', hfv'⟩ := Sees.form hr'.files; obtain ⟨la', lc', hlv'⟩ := Sees.form hr'.falls; have HR3 := hide (And.intro (row_kept HR2.out.1 k3) (And.intro (row_kept HR2.out.2.1 k3) (And.intro (row_kept HR2.out.2.2.1 k3) (And.intro (HR2.out.2.2.2.trans (k3.mono HR2.out.2.2.2.size)) (And.intro ha hr'))))); clear ha hr' k3 hdv; obtain ⟨c0, c1, c2, c3, c4⟩ := cells5 HR3.out.1; obtain ⟨g0, g1, g2, g3, g4⟩ := frozen5 HR3.out.1; obtain ⟨d0, d1, d2, d3, d4⟩ := cells5 HR3.out.2.1; obtain ⟨f0, f1, f2, f3, f4⟩ := frozen5 HR3.out.2.1)
              have z6 := set5_kept HR3.out.2.1 (by omega : w.heap.size + 1 ≠ w.heap.size) (Value.slice fa' D'.rs.length fc') (.int .i64 D'.a.room) (.slice la' (flen D'.a.fall) lc') (.int .i64 D'.a.changes) (.bool D'.a.down)
              have zb := below5 HR3.out.2.2.2.1 (Nat.le_refl _) (Value.slice fa' D'.rs.length fc') (.int .i64 D'.a.room) (.slice la' (flen D'.a.fall) lc') (.int .i64 D'.a.changes) (.bool D'.a.down)
              have zr := RefAt.set5 HR3.out.2.2.2.2.2 HR3.out.1 (Value.slice fa' D'.rs.length fc') (.int .i64 D'.a.room) (.slice la' (flen D'.a.fall) lc') (.int .i64 D'.a.changes) (.bool D'.a.down)
              refine bodyPost_ret (results_cell2_row Try.results56 _ _ _ 27 _ (0, 0) _ rfl (set5 z6 _ _ _ _ _) Try.underlying27 rfl infoDisk) rfl ?_
              have := HEND.out _ D' (by rw [← hR]; exact HR3.out.2.2.2.2.1) (RefAt.set5 zr z6 (Value.slice fa' D'.rs.length fc') (.int .i64 D'.a.room) (.slice la' (flen D'.a.fall) lc') (.int .i64 D'.a.changes) (.bool D'.a.down)) (below5 zb (Nat.le_add_right _ 1) _ _ _ _ _)
              rw [hfv', hlv'] at this
              exact this
            | none =>
              rw [struck_calm hit] at hR
              have hst := HSTR.out.1 hit
              rw [hst] at HSTRIKE
              have hR2 : R.2 = 0 := by rw [← hR]
              rw [hR2] at HEND
              clear hst hR2
              go_upto_region 17 with (go_at_call 68; refine (HSTRIKE.out _ HR2.out.2.2.2).mono ?_; rintro e w3 ⟨D', rfl, ha, hr', k3, hdv⟩; rw [hdv hit]; have HR3 := hide (And.intro (row_kept HR2.out.1 k3) (And.intro (row_kept HR2.out.2.1 k3) (And.intro (row_kept HR2.out.2.2.1 k3) (HR2.out.2.2.2.trans (k3.mono HR2.out.2.2.2.size))))); clear ha hr' k3 hdv; obtain ⟨c0, c1, c2, c3, c4⟩ := cells5 HR3.out.1; obtain ⟨g0, g1, g2, g3, g4⟩ := frozen5 HR3.out.1; obtain ⟨d0, d1, d2, d3, d4⟩ := cells5 HR3.out.2.1; obtain ⟨f0, f1, f2, f3, f4⟩ := frozen5 HR3.out.2.1)
              obtain ⟨W, hW⟩ : ∃ x, x = ((((w3.setCell ⟨w.heap.size, 0, none⟩ (.slice (some ⟨b, off, none⟩) D.rs.length fc)).setCell ⟨w.heap.size, 1, none⟩ (.int .i64 D.a.room)).setCell ⟨w.heap.size, 2, none⟩ (.slice la (flen D.a.fall) lc)).setCell ⟨w.heap.size, 3, none⟩ (.int .i64 ((D.a.changes : Int) + 1))).setCell ⟨w.heap.size, 4, none⟩ (.bool false) := ⟨_, rfl⟩
              rw [← hW]
              have HW : Hid (W.heap[w.heap.size]? = some (.cells #[.slice (some ⟨b, off, none⟩) D.rs.length fc, .int .i64 D.a.room, .slice la (flen D.a.fall) lc, .int .i64 ((D.a.changes : Int) + 1), .bool false] 27 (0, 0)) ∧ W.heap[w.heap.size + 1]? = some (.cells #[Value.slice none 0 0, Value.int IntKind.i64 0, Value.slice none 0 0, Value.int IntKind.i64 0, Value.bool false] 27 (0, 0)) ∧ W.heap[w1.heap.size]? = some (.cells #[.string ⟨r.a.name.toArray⟩, .string ⟨r.a.sure.toArray⟩, .bool r.a.settled, .slice pa r.a.puts.length pc] 52 (0, 0)) ∧ Below w.heap.size w W) := by
                have := hb12.out
                rw [hW]
                exact ⟨set5 HR3.out.1 _ _ _ _ _, set5_kept HR3.out.2.1 (by omega) _ _ _ _ _, set5_kept HR3.out.2.2.1 (by omega) _ _ _ _ _, below5 HR3.out.2.2.2 (Nat.le_refl _) _ _ _ _ _⟩
              clear hW HR3 HR2 c0 c1 c2 c3 c4 g0 g1 g2 g3 g4 d0 d1 d2 d3 d4 f0 f1 f2 f3 f4
              refine QTail.wp_region_tail (fun w' => ∃ p : Regrown, w' = Sort.grow (redrawn W p.d) p.os) 7 (by kernel_rfl) (by kernel_rfl) ⟨⟨W.drawn + 1, #[]⟩, by rw [Sort.grow_empty]; rfl⟩ ?_
              simp only [List.take_succ_cons, List.take_zero, List.drop_succ_cons, List.drop_zero]
              refine QuietCalls.load rfl 27 (.tmp 4) rfl _ rfl 27 _ (0, 0) _ HW.out.1 Try.underlying27 rfl infoDisk ?_; simp only [Act.put, List.setIfInBounds_toArray, List.set_cons_succ, List.set_cons_zero]
              refine QuietCalls.load rfl 52 (.tmp 12) rfl _ rfl 52 _ (0, 0) _ HW.out.2.2.1 Try.underlying52 rfl infoFile ?_; simp only [Act.put, List.setIfInBounds_toArray, List.set_cons_succ, List.set_cons_zero]
              iterate 4 (first | go_big_quiet_step (fail) | quiet_step (fail))
              refine QuietCalls.call3 rfl rfl Try.call71 (fun w' _ => HSET.out w') rfl rfl (congrArg Value.string (txt_take _ _)) ?_; simp only [Act.put, List.setIfInBounds_toArray, List.set_cons_succ, List.set_cons_zero]
              refine wpQuiet_nil ?_
              rintro _ ⟨⟨dq, osq⟩, rfl⟩
              have hbl' := below_regrown W dq osq
              generalize Sort.grow (redrawn W dq) osq = U at hbl'
              have HU := hide (And.intro (row_kept HW.out.2.1 hbl') (HW.out.2.2.2.trans (hbl'.mono HW.out.2.2.2.size)))
              clear hbl'
              go_wp2_with (go_at_call 69; refine (HWI.out _ HU.out.2).mono ?_; rintro e w4 ⟨D2, rfl, ha2, hr2, k4⟩; obtain ⟨fa', fc', hfv'⟩ := Sees.form hr2.files; obtain ⟨la', lc', hlv'⟩ := Sees.form hr2.falls; have HR4 := hide (And.intro (row_kept HU.out.1 k4) (And.intro (HU.out.2.trans (k4.mono HU.out.2.size)) (And.intro ha2 hr2))); clear ha2 hr2 k4; obtain ⟨d0, d1, d2, d3, d4⟩ := cells5 HR4.out.1; obtain ⟨f0, f1, f2, f3, f4⟩ := frozen5 HR4.out.1)
              refine bodyPost_ret (results_cell2_row Try.results56 _ _ _ 27 _ (0, 0) _ rfl (set5 HR4.out.1 _ _ _ _ _) Try.underlying27 rfl infoDisk) rfl ?_
              have := HEND.out _ D2 (by rw [← hR]; exact HR4.out.2.2.1) (RefAt.set5 HR4.out.2.2.2 HR4.out.1 (Value.slice fa' D2.rs.length fc') (.int .i64 D2.a.room) (.slice la' (flen D2.a.fall) lc') (.int .i64 D2.a.changes) (.bool D2.a.down)) (below5 HR4.out.2.1 (Nat.le_add_right _ 1) _ _ _ _ _)
              rw [hfv', hlv'] at this
              exact this
end Go.Proofs.Ytnjkahoaogeecaa
