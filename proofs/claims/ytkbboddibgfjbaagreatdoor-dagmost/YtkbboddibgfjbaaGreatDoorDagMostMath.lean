/- Nodes of one author that wait for what never comes: eight, and no more; the digests reckoned by the kernel. -/
import Derived.Test.YtkbboddibgfjbaaGreatDoorDagPure
namespace Go.Dag
open Go.Nod Go.MapFun
def mPre : ByteArray := ⟨#[49, 50, 51, 52, 53, 54, 55, 56, 57, 48, 49, 50, 51, 52, 53, 54, 55, 56, 57, 48, 49, 50, 51, 52, 53, 54, 55, 56, 57, 48, 49]⟩
/-- What the i-th one waits for. -/
def mP (i : Nat) : ByteArray := mPre ++ ⟨#[UInt8.ofNat (97 + i)]⟩
def yP : ByteArray := ⟨#[120, 50, 51, 52, 53, 54, 55, 56, 57, 48, 49, 50, 51, 52, 53, 54, 55, 56, 57, 48, 49, 50, 51, 52, 53, 54, 55, 56, 57, 48, 49, 50]⟩
theorem mP_size (i : Nat) : (mP i).size = 32 := by unfold mP; rw [ByteArray.size_append]; rfl
def mOp (a : Int) : Opn.Ob := ⟨3, ⟨5, a⟩, 20, 0, ⟨#[]⟩, false, ⟨#[]⟩, 0⟩
def mNd (a : Int) (p tg : ByteArray) : Nd := ⟨a, [p], mOp a, tg⟩
def mH (a : Int) (p : ByteArray) : ByteArray := tagD (mNd a p ⟨#[]⟩).body
def mT (a : Nat) (p : ByteArray) : ByteArray := tagOf (Mac.keyOf seedB a) (mH a p)
def mN (a : Nat) (p : ByteArray) : Nd := mNd a p (mT a p)
/-- A digest's first byte. -/
def fst8 (x : ByteArray) : Nat := (x.data.toList.headD 0).toNat
def fstL : List Nat := [70, 240, 42, 243, 138, 141, 201, 62, 67, 233, 19, 217, 159, 193, 129]
def fstY : List Nat := [224, 113, 40, 60]
set_option maxRecDepth 100000 in
theorem fstX_is : ((List.range 15).map fun i => fst8 (mH 1 (mP i))) = fstL := by decide +kernel
set_option maxRecDepth 100000 in
theorem fstY_is : ((List.range 4).map fun a => fst8 (mH (a : Nat) yP)) = fstY := by decide +kernel
theorem fstX {i : Nat} (hi : i < 15) : fstL[i]? = some (fst8 (mH 1 (mP i))) := by
  rw [← fstX_is, List.getElem?_map, List.getElem?_range hi]
  rfl
theorem fstYa {a : Nat} (ha : a < 4) : fstY[a]? = some (fst8 (mH (a : Nat) yP)) := by
  rw [← fstY_is, List.getElem?_map, List.getElem?_range ha]
  rfl
theorem mH_ne {i k : Nat} (hi : i < 15) (hk : k < 15) (hne : i ≠ k) : mH 1 (mP k) ≠ mH 1 (mP i) := fun e => by
  have h1 := fstX hi
  have h2 := fstX hk
  rw [e, ← h1] at h2
  have hnd : fstL.Nodup := by unfold fstL; decide
  exact hne ((List.getElem?_inj (show i < fstL.length from hi) hnd).1 h2.symm)
theorem mH_ney {a k : Nat} (ha : a < 4) (hk : k < 15) : mH 1 (mP k) ≠ mH (a : Nat) yP := fun e => by
  have h1 := fstYa ha
  have h2 := fstX hk
  rw [e] at h2
  have m1 := List.mem_of_getElem? h1
  have m2 := List.mem_of_getElem? h2
  have : ∀ x ∈ fstY, x ∉ fstL := by unfold fstY fstL; decide
  exact this _ m1 m2
theorem mN_good {a : Nat} (ha : a < 4) {p : ByteArray} (hp : p.size = 32) : (mN a p).Good := by
  refine ⟨?_, tagOf_size _ _, ?_, ?_, rfl⟩
  · show rises [p] = true
    unfold rises
    rw [Bool.and_eq_true]
    refine ⟨rfl, ?_⟩
    show (true && okAt [p] 0) = true
    unfold okAt
    show (true && ((p.size == 32) && (true || _))) = true
    rw [hp]
    rfl
  · show 1 ≤ (5 : Int) ∧ (5 : Int) ≤ 281474976710655 ∧ (0 : Int) ≤ a ∧ (a : Int) < 16
    omega
  · show (mOp a).Good
    unfold Opn.Ob.Good Opn.Ob.good
    rw [Bool.and_eq_true, Bool.and_eq_true, Opn.made_iff, Opn.Ob.eqb_iff]
    exact ⟨⟨by show (16 : Int) ≤ 20 ∧ (20 : Int) ≤ 4503599627370495; omega, rfl⟩, rfl⟩
theorem mN_right {a : Nat} (ha : a < 4) (p : ByteArray) : (mN a p).right (Mac.keysOf seedB 4) = true := by
  have e : (Mac.keysOf seedB 4)[(mN a p).au.toNat]? = some (Mac.keyOf seedB a) := Mac.keysOf_at _ _ _ ha
  rw [Nd.right_some e]
  refine decide_eq_true ?_
  show (Sha.tag _ _).toArray.toList = _
  rw [List.toList_toArray]
  rfl
/-- Those that wait. -/
def wts (m : Nat) : Ns := (List.range m).map fun k => (mH 1 (mP k), mN 1 (mP k))
theorem wts_length (m : Nat) : (wts m).length = m := by simp [wts]
theorem wts_succ (m : Nat) : wts (m + 1) = wts m ++ [(mH 1 (mP m), mN 1 (mP m))] := by simp [wts, List.range_succ]
theorem lk_wts {m : Nat} {h : ByteArray} (hh : ∀ k, k < m → mH 1 (mP k) ≠ h) : lk (wts m) h = none := lk_none.2 fun x hx => by
  obtain ⟨k, hk, rfl⟩ := List.mem_map.1 hx
  exact hh k (List.mem_range.1 hk)
theorem of_one (m : Nat) : ofAuthor (wts m) 1 = m := by
  unfold ofAuthor
  rw [List.filter_eq_self.2 fun x hx => by obtain ⟨k, _, rfl⟩ := List.mem_map.1 hx; rfl, wts_length]
theorem of_other {m : Nat} {a : Int} (ha : a ≠ 1) : ofAuthor (wts m) a = 0 := by
  unfold ofAuthor
  rw [List.filter_eq_nil_iff.2 fun x hx => by
    obtain ⟨k, _, rfl⟩ := List.mem_map.1 hx
    have : ¬ ((1 : Int) = a) := fun e => ha e.symm
    show ¬ decide ((1 : Int) = a) = true
    rw [decide_eq_false this]
    decide]
  rfl
theorem unfit_m (a : Nat) (p : ByteArray) : unfit [] (mN a p) = 123 := rfl
theorem refuses_m {a m : Nat} {p : ByteArray} (hn : lk (wts m) (mH a p) = none) : (Dg.mk [] (wts m)).refuses (mH a p) (mN a p) = if 8 ≤ ofAuthor (wts m) a then 3 else 123 := by
  unfold Dg.refuses
  rw [if_neg (by
    show ¬ ((lk [] (mH a p)).isSome = true ∨ (lk (wts m) (mH a p)).isSome = true)
    rw [hn]
    simp [lk]), unfit_m]
  by_cases h : 8 ≤ ofAuthor (wts m) a
  · rw [if_pos ⟨rfl, h⟩, if_pos h]
  · rw [if_neg (fun e => h e.2), if_neg h]
theorem add_m {a m : Nat} {p : ByteArray} (ha : a < 4) (hp : p.size = 32) (hn : lk (wts m) (mH a p) = none) : (Dg.mk [] (wts m)).add (Mac.keysOf seedB 4) (mN a p).bytesB = if 8 ≤ ofAuthor (wts m) a then (⟨[], wts m⟩, [], 3) else (⟨[], wts m ++ [(mH a p, mN a p)]⟩, [], 123) := by
  rw [add_of (mN_good ha hp) (mN_right ha p)]
  show (Dg.mk [] (wts m)).come (mH a p) (mN a p) = _
  have hr := refuses_m (a := a) hn
  unfold Dg.come
  by_cases h : 8 ≤ ofAuthor (wts m) a
  · rw [if_pos h] at hr ⊢
    rw [hr, if_neg (by decide), if_neg (by decide)]
  · rw [if_neg h] at hr ⊢
    rw [if_pos hr]
theorem add_x {i : Nat} (hi : i < 15) : (Dg.mk [] (wts (min i 8))).add (Mac.keysOf seedB 4) (mN 1 (mP i)).bytesB = (⟨[], wts (min (i + 1) 8)⟩, [], if i < 8 then 123 else 3) := by
  rw [add_m (by decide) (mP_size i) (lk_wts fun k hk => mH_ne hi (by omega) (by omega))]
  show (if 8 ≤ ofAuthor (wts (min i 8)) 1 then _ else _) = _
  rw [of_one]
  by_cases h : i < 8
  · rw [if_neg (by omega), if_pos h, show min (i + 1) 8 = min i 8 + 1 by omega, wts_succ, show min i 8 = i by omega]
    rfl
  · rw [if_pos (by omega), if_neg h, show min (i + 1) 8 = min i 8 by omega]
theorem add_y {a k : Nat} (ha : a < 4) : (Dg.mk [] (wts (min k 8))).add (Mac.keysOf seedB 4) (mN a yP).bytesB = if a = 1 ∧ 8 ≤ k then (⟨[], wts (min k 8)⟩, [], 3) else (⟨[], wts (min k 8) ++ [(mH a yP, mN a yP)]⟩, [], 123) := by
  rw [add_m ha rfl (lk_wts fun k hk => mH_ney ha (by omega))]
  by_cases h1 : a = 1
  · subst h1
    show (if 8 ≤ ofAuthor (wts (min k 8)) 1 then _ else _) = _
    rw [of_one]
    by_cases h : 8 ≤ k
    · rw [if_pos (by omega), if_pos ⟨rfl, h⟩]
    · rw [if_neg (by omega), if_neg (fun e => h e.2)]
  · rw [of_other (by omega), if_neg (by decide), if_neg (fun e => h1 e.1)]
end Go.Dag
