/- Contract: why a node is not behind its parents. -/
import Derived.Test.YtkbboddibgfjbaaGreatDoorDagTell
import Derived.Test.YtkbboddibgfjbaaGreatDoorDagErr
import Derived.Test.YtkbboddibgfjbaaGreatDoorNodeOne
namespace Go.Dag
open Go.RowKit Go.Nod Go.MapFun
theorem late_to {T : Ns} {c : Int} {ps : List ByteArray} {i : Nat} {x : ByteArray} (h : (ps.take i).any (lateAt T c) = false) (hx : ps[i]? = some x) (hl : lateAt T c x = false) : (ps.take (i + 1)).any (lateAt T c) = false := by
  rw [List.take_add_one, hx, List.any_append, h]
  simp [hl]
theorem late_any {T : Ns} {c : Int} {ps : List ByteArray} {i : Nat} {x : ByteArray} (hx : ps[i]? = some x) (hl : lateAt T c x = true) : ps.any (lateAt T c) = true := List.any_eq_true.2 ⟨x, List.mem_of_getElem? hx, hl⟩
theorem away_some {T : Ns} {ps : List ByteArray} {i : Nat} {x : ByteArray} {q : Nd} (hx : ps[i]? = some x) (h : lk T x = some q) : away T (ps.take (i + 1)) = away T (ps.take i) := by
  unfold away
  rw [List.take_add_one, hx, List.filter_append]
  simp [h]
theorem away_none {T : Ns} {ps : List ByteArray} {i : Nat} {x : ByteArray} (hx : ps[i]? = some x) (h : lk T x = none) : away T (ps.take (i + 1)) = away T (ps.take i) ++ [x] := by
  unfold away
  rw [List.take_add_one, hx, List.filter_append]
  simp [h]
theorem away_le (T : Ns) (ps : List ByteArray) : (away T ps).length ≤ ps.length := List.length_filter_le _ _
/-- The block of a node's own, a row that grows, and Below in one. -/
structure Uf (w0 : World) (g : Nat) (cs : Array Value) (S : TypeId) (v : Value) (xs : List ByteArray) (w : World) : Prop where
  row : w.heap[g]? = some (.cells cs S (0, 0))
  own : w.ownsRow (w0.heap.size + 1) 9 1 v xs.length (xs.map Value.string)
  below : Below w0.heap.size w0 w
  hg : w0.heap.size = g
theorem Uf.step {w0 w w' : World} {g : Nat} {cs : Array Value} {S : TypeId} {v : Value} {xs : List ByteArray} (h : Uf w0 g cs S v xs w) (k : Below w.heap.size w w') : Uf w0 g cs S v xs w' :=
  ⟨(k.block _ (Array.getElem?_eq_some_iff.1 h.row).1).trans h.row, own_low h.own fun j hj => k.block j (h.own.lt j hj).2, h.below.trans (k.mono h.below.size), h.hg⟩
end Go.Dag
namespace Go.Proofs.YtkbboddibgfjbaaGreatDoor
open Go.RowKit Go.Sort Go.Nod Go.MapFun Go.Dag
attribute [local go_sem] Oper.semAt_some
theorem dgInfo9 : (Tryz.prog.info? 9).map (fun i => (i.zero, i.size, i.bytes)) = some (some (.string ⟨#[]⟩), 1, 16) := by kernel_rfl
/-- Why: nothing; a parent that is late; parents that are not there. -/
def Why (k : Int) (aw : List ByteArray) (v : Value) (w : World) : Prop :=
  (k = 0 ∧ v = .nilIface) ∨ (k = 122 ∧ ∃ u, v = .iface 181 u) ∨ (k = 123 ∧ ∃ g sv, v = .iface 133 (.pointer (some ⟨g, 0, none⟩)) ∧ w.heap[g]? = some (.cells #[sv] 137 (0, 0)) ∧ StrRow.Reads w sv aw)
theorem Why.er {k : Int} {aw : List ByteArray} {v : Value} {w : World} (h : Why k aw v w) : Er k v := by
  rcases h with ⟨rfl, rfl⟩ | ⟨rfl, u, rfl⟩ | ⟨rfl, g, sv, rfl, -⟩
  · exact .inl ⟨rfl, rfl⟩
  · exact .inr (.inr (.inl ⟨rfl, u, rfl⟩))
  · exact .inr (.inr (.inr ⟨rfl, _, rfl⟩))
set_option maxRecDepth 100000 in
set_option maxHeartbeats 2000000 in
theorem unfit_any {base : Nat} {F : Fp} {ks : List ByteArray} {sl : ByteArray → Sl} {r : Rw} (n : Nd) (pv : Value) (w : World) (h : DagR Tryz.prog 75 base F ks sl r w) (hR : StrRow.Reads w pv n.ps) (hg : n.Good) :
    Calls Tryz.prog 76 #[.pointer (some ⟨F.b, 0, none⟩), n.v pv] w fun e w' => ∃ v, e = .returned v ∧ Why (unfit r.N n) (away r.N n.ps) v w' ∧ Below w.heap.size w w' := by
  obtain ⟨i9, hi9, hz0, hz1, hz2⟩ := info_parts dgInfo9
  have HD := hide (And.intro h hR)
  have hfew := hg.few
  have hall := fun x hx => hg.all x hx
  obtain ⟨pa, pc, rfl⟩ := hR.form
  have HU0 : Hid (n.ps.any (lateAt r.N n.op.tm.c) = true → unfit r.N n = 122) := fun h => by unfold unfit; rw [if_pos h]
  have HU1 : Hid (n.ps.any (lateAt r.N n.op.tm.c) = false → away r.N n.ps = [] → unfit r.N n = 0) := fun h e => by unfold unfit; rw [if_neg (by rw [h]; decide), if_pos e]
  have HU2 : Hid (n.ps.any (lateAt r.N n.op.tm.c) = false → away r.N n.ps ≠ [] → unfit r.N n = 123) := fun h e => by unfold unfit; rw [if_neg (by rw [h]; decide), if_neg e]
  clear h hR hg
  generalize unfit r.N n = U at *
  obtain ⟨au, ps, ⟨kd, ⟨tc, tk⟩, th, p, nm, dr, dg, sz⟩, tg⟩ := n
  dsimp only at HU0 HU1 HU2 HD hfew hall ⊢
  unfold Nd.v
  go_enter Tryz.func76, Tryz.ntmps76
  go_wp2_with fail
  go_loopw [5, 13] (fun va vi wr => ∃ i : Nat, i ≤ ps.length ∧ vi = .int .i64 i ∧ Hid (Uf w w.heap.size ((Nd.mk au ps ⟨kd, ⟨tc, tk⟩, th, p, nm, dr, dg, sz⟩ tg).cs (.slice pa ps.length pc)) 60 va (away r.N (ps.take i)) wr ∧ (ps.take i).any (lateAt r.N tc) = false)) (fun _ vi _ => 1000 - (intOf vi).toNat)
  case atStart => exact ⟨0, Nat.zero_le _, rfl, ⟨heap_alloc_new _ _, World.ownsRow_nil _ _ _ _, (Below.refl _ w).alloc (Nat.le_refl _) _, rfl⟩, rfl⟩
  case round =>
    obtain ⟨i, hi, rfl, HH⟩ := hrel
    obtain ⟨va, vc, hva⟩ := own_slice HH.out.1.own
    subst hva
    by_cases hlt : i < ps.length
    · have hlt' : (i : Int) < ps.length := by omega
      have hrd := HD.out.2.below HH.out.1.below (Nat.le_refl _)
      obtain ⟨b', off, cap, hv, hcap, hbl⟩ := hrd.at (by intro h; rw [h] at hlt; simp at hlt)
      simp only [Value.slice.injEq, true_and] at hv
      obtain ⟨rfl, rfl⟩ := hv
      obtain ⟨x, hx⟩ : ∃ x, ps[i]? = some x := ⟨_, List.getElem?_eq_getElem hlt⟩
      have hcell := hrd.cell hx
      have hx32 := hall x (List.mem_of_getElem? hx)
      have hD := HD.out.1.below HH.out.1.below
      obtain ⟨c0, c1, c2, c3, c4, c5⟩ := hD.cells
      have hl := hD.nodes.look Tryz.underlying9 dagMap1 (zeroNd wr) true x (by unfold maxLen; omega)
      rw [got_nx] at hl
      clear hD c0 c2 c3 c4 c5 hrd
      cases hk : lk r.N x with
      | none =>
        rw [hk] at hl
        unfold gotN Nd.v Nd.zero Opn.Ob.zero at hl
        dsimp only at hl
        have hlc : (away r.N (ps.take i)).length ≤ 8 := Nat.le_trans (away_le _ _) (by rw [List.length_take]; omega)
        have HA := hide (away_none hx hk)
        have HL := hide (late_to (T := r.N) (c := tc) HH.out.2 hx (by unfold lateAt; rw [hk]))
        go_wp2_with (at_builtin; refine wpList_append_own _ rfl _ _ 24 rfl (w.heap.size + 1) 9 i9 (.string ⟨#[]⟩) 1 16 Tryz.underlying24 hi9 hz0 hz1 hz2 rfl (by decide) _ _ _ rfl ((HH.out.1.own.alloc _).alloc _) ⟨(wr.heap.size + 1), 0, none⟩ 1 1 [.string x] rfl rfl ?a1 ?a2 ?a3 ?a4 ?a5 ?_)
        case a1 => simpa using cell_one_new (wr.alloc _) (.string x) 9
        case a2 => intro u hu; simp at hu; subst hu; rfl
        case a3 => unfold maxLen; omega
        case a4 => omega
        case a5 => have h1 := HH.out.1.below.size; simp; omega
        intro v' w4 hown hgrow _
        have H3 : Hid (Uf w w.heap.size ((Nd.mk au ps ⟨kd, ⟨tc, tk⟩, th, p, nm, dr, dg, sz⟩ tg).cs (.slice (some ⟨b', off, none⟩) ps.length pc)) 60 v' (away r.N (ps.take (i + 1))) w4) := by
          have hu := HH.out.1
          have hgl := (Array.getElem?_eq_some_iff.1 hu.row).1
          have kk := ((Below.refl wr.heap.size wr).alloc (Nat.le_refl _) (.cells ((Nd.mk 0 [] ⟨0, ⟨0, 0⟩, 0, 0, ⟨#[]⟩, false, ⟨#[]⟩, 0⟩ ⟨#[]⟩).cs (.slice none 0 0)) 60)).alloc (by simp) (.cells #[.string x] 9)
          have hb1 := hu.below.trans (kk.mono hu.below.size)
          refine ⟨(hgrow.block _ (Nat.lt_of_lt_of_le hgl kk.size) fun e => ?_).trans ((kk.block _ hgl).trans hu.row), ?_, hb1.grown hgrow hb1.size fun k e => Nat.le_of_succ_le (hu.own.lt k e).1, rfl⟩
          · have := (hu.own.lt _ e.symm).1
            omega
          rw [HA.out, List.length_append, List.map_append]
          exact hown
        obtain ⟨ya, yc, rfl⟩ := own_slice hown
        clear hown hgrow
        go_wp2_with fail
        go_roundw
        case rel => exact ⟨i + 1, by omega, by go_num, H3.out, HL.out⟩
        case measure => simp [intOf]; omega
      | some q =>
        obtain ⟨sa, sn, sc, hsl⟩ := (sl x).form
        rw [hk] at hl
        unfold gotN Nd.v at hl
        rw [hsl] at hl
        dsimp only at hl
        have HA := hide (away_some hx hk)
        obtain ⟨e0, e1, e2, e3, e4, e5, e6, e7, e8, e9, e10, e11⟩ := cells12 HH.out.1.row
        dsimp only at e3
        clear e0 e1 e2 e4 e5 e6 e7 e8 e9 e10 e11
        have hgl : w.heap.size < wr.heap.size := (Array.getElem?_eq_some_iff.1 HH.out.1.row).1
        by_cases hq : tc ≤ q.op.tm.c
        · have HL := hide (late_any (T := r.N) (c := tc) hx (by unfold lateAt; rw [hk]; exact decide_eq_true hq))
          have hU := HU0.out HL.out
          go_wp2_with fail
          go_ret
          have k1 := HH.out.1.below
          exact ⟨_, rfl, .inr (.inl ⟨by first | exact hU | rfl, _, rfl⟩), (k1.alloc k1.size _).alloc (Nat.le_trans k1.size (by simp)) _⟩
        · have HL := hide (late_to (T := r.N) (c := tc) HH.out.2 hx (by unfold lateAt; rw [hk]; exact decide_eq_false hq))
          go_wp2_with fail
          go_roundw
          case rel =>
            refine ⟨i + 1, by omega, by go_num, ?_, HL.out⟩
            rw [HA.out]
            exact HH.out.1.step ((Below.refl _ wr).alloc (Nat.le_refl _) _)
          case measure => simp [intOf]; omega
    · have hlt' : ¬ ((i : Int) < ps.length) := by omega
      have hin : i = ps.length := by omega
      subst hin
      rw [List.take_length] at HH
      cases hA : away r.N ps with
      | nil =>
        rw [hA] at HH HU1
        have hU := HU1.out HH.out.2 rfl
        go_wp2_with fail
        go_ret
        exact ⟨_, rfl, .inl ⟨by first | exact hU | rfl, rfl⟩, HH.out.1.below⟩
      | cons y ys =>
        rw [hA] at HH HU2
        have hU := HU2.out HH.out.2 (by simp)
        have hpos : (0 : Int) < ((y :: ys).length : Nat) := by simp
        generalize y :: ys = aw at *
        go_wp2_with fail
        go_ret
        have k1 := HH.out.1.below
        refine ⟨_, rfl, .inr (.inr ⟨by first | exact hU | rfl, _, _, rfl, heap_alloc_new _ _, ?_⟩), k1.alloc k1.size _⟩
        exact StrRow.Reads.of_own (HH.out.1.own.alloc _)
end Go.Proofs.YtkbboddibgfjbaaGreatDoor
