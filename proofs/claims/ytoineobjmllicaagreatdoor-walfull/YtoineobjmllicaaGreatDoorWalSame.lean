/- Contract: the same texts? -/
import Derived.Test.YtoineobjmllicaaGreatDoorWlThree
import Derived.Test.YtoineobjmllicaaGreatDoorWalKeep
import Derived.BigQuiet
namespace Go.Wal
open Go.RowKit Go.Dk
theorem under_drewN (w : World) (n : Nat) : Below w.heap.size w (w.drewN n) := ⟨rfl, rfl, rfl, Nat.le_refl _, fun _ _ => rfl⟩
theorem texts_form {w : World} {v : Value} {ls : List Bs} (h : Texts w v ls) : ∃ a c, v = .slice a ls.length c ∧ ls.length ≤ c := by
  obtain ⟨a, c, h1, h2, _⟩ := h; exact ⟨a, c, h1, h2⟩
theorem texts_at {w : World} {a : Option Addr} {n c : Nat} {ls : List Bs} (h : Texts w (.slice a n c) ls) {j : Nat} {l : Bs} (hj : ls[j]? = some l) : ∃ b off, a = some ⟨b, off, none⟩ ∧ ls.length ≤ c ∧ w.cell? ⟨b, off + j, none⟩ = some (.string ⟨l.toArray⟩) := by
  obtain ⟨a', c', h1, h2, h3⟩ := h
  cases h1
  obtain ⟨b, off, h4, h5⟩ := h3 j l hj
  exact ⟨b, off, h4, h2, h5⟩
theorem bytes_ne {l m : Bs} (h : l ≠ m) : ((⟨l.toArray⟩ : ByteArray).toList == (⟨m.toArray⟩ : ByteArray).toList) = false := by
  rw [ByteArray.toList_eq, ByteArray.toList_eq, beq_eq_false_iff_ne]
  exact h
theorem take_next_eq {α : Type} {a b : List α} {i : Nat} {x y : α} (h : a.take i = b.take i) (hx : a[i]? = some x) (hy : b[i]? = some y) (e : x = y) : a.take (i + 1) = b.take (i + 1) := by
  rw [List.take_add_one, List.take_add_one, h, hx, hy, e]
end Go.Wal
namespace Go.Proofs.YtoineobjmllicaaGreatDoor
open Go.RowKit Go.Dk Go.Wal
set_option maxRecDepth 100000 in
set_option maxHeartbeats 1000000 in
theorem same_any (va vb : Value) (la lb : List Bs) (w : World) (ha : Texts w va la) (hb : Texts w vb lb) (hla : la.length ≤ 1000000) :
    Calls Tryz.prog 19 #[va, vb] w fun e w' => e = .returned (.bool (decide (la = lb))) ∧ Below w.heap.size w w' := by
  obtain ⟨aa, ca, rfl, hca⟩ := texts_form ha
  obtain ⟨ab, cb, rfl, hcb⟩ := texts_form hb
  have HA := hide ha
  have HB := hide hb
  clear ha hb
  by_cases hlen : la.length = lb.length
  · have hlen' : (la.length : Int) = lb.length := by omega
    go_enter Tryz.func19, Tryz.ntmps19
    go_wp2
    go_loopw [5] (fun vi wr => ∃ i : Nat, i ≤ la.length ∧ vi = .int .i64 i ∧ Hid (la.take i = lb.take i) ∧ Hid (Below w.heap.size w wr)) (fun vi _ => la.length - (intOf vi).toNat)
    case atStart => exact ⟨0, Nat.zero_le _, rfl, rfl, Below.refl _ _⟩
    case round =>
      obtain ⟨i, hi, rfl, HT, HW⟩ := hrel
      by_cases hlt : i < la.length
      · have hlt2 : i < lb.length := by omega
        have hlt' : (i : Int) < la.length := by omega
        have e1 := List.getElem?_eq_getElem hlt
        have e2 := List.getElem?_eq_getElem hlt2
        generalize la[i] = x at *
        generalize lb[i] = y at *
        obtain ⟨b1, o1, rfl, hc1, q1⟩ := texts_at (HA.out.below HW.out) e1
        obtain ⟨b2, o2, rfl, hc2, q2⟩ := texts_at (HB.out.below HW.out) e2
        by_cases hxy : x = y
        · have HN := hide (take_next_eq HT.out e1 e2 hxy)
          subst hxy
          clear e1 e2
          generalize (⟨x.toArray⟩ : ByteArray) = X at *
          go_wp2_with fail
          go_quiet (fail)
          go_wp2
          go_roundw
          case rel => exact ⟨i + 1, by omega, by go_num, HN.out, HW.out.trans ((under_drewN wr nq).mono HW.out.size)⟩
          case measure => simp [intOf]; omega
        · have HE : Hid (la ≠ lb) := fun e => hxy (by rw [e, e2] at e1; cases e1; rfl)
          have hne := bytes_ne hxy
          clear e1 e2
          generalize (⟨x.toArray⟩ : ByteArray) = X at *
          generalize (⟨y.toArray⟩ : ByteArray) = Y at *
          go_wp2_with fail
          go_quiet (fail)
          go_wp2
          go_ret
          rw [decide_eq_false HE.out]
          exact ⟨rfl, HW.out.trans ((under_drewN wr nq).mono HW.out.size)⟩
      · have hie : i = la.length := by omega
        have HE : Hid (la = lb) := by
          have := HT.out
          rw [hie, List.take_length] at this
          rw [List.take_of_length_le (by omega)] at this
          exact this
        have hlt' : ¬ ((i : Int) < la.length) := by omega
        clear HT
        go_wp2
        go_ret
        rw [decide_eq_true HE.out]
        exact ⟨rfl, HW.out⟩
  · have HE : Hid (la ≠ lb) := fun e => hlen (by rw [e])
    have hlen' : ¬ ((la.length : Int) = lb.length) := by omega
    have hlen2 : ((la.length : Int) != lb.length) = true := bne_iff_ne.2 hlen'
    go_enter Tryz.func19, Tryz.ntmps19
    go_wp2
    go_ret
    rw [decide_eq_false HE.out]
    exact ⟨rfl, Below.refl _ _⟩
end Go.Proofs.YtoineobjmllicaaGreatDoor
