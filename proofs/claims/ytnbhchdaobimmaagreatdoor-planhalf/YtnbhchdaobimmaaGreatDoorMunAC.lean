/- Several texts in one: StabCmp, PlanClone, StabMath, StabMath2, StabMem, StabSwap, StabInsG, StabRot, StabMergeA, StabMergeC, StabMergeD, StabMerge, StabAllG, PlanOrdered, PlanBack, PlanGone. -/
import Derived.Test.YtnbhchdaobimmaaGreatDoorOfB
import Derived.Test.YtnbhchdaobimmaaGreatDoorRunAK
import Derived.Test.YtnbhchdaobimmaaGreatDoorRunAI
import Derived.Test.YtnbhchdaobimmaaGreatDoorQuietAll
import Derived.Test.YtnbhchdaobimmaaGreatDoorRunAJ
import Derived.Sort.Statements
import Derived.Shelf.SlicesQ.Load
import Derived.Laws.IdiomCopy
import Derived.Test.YtnbhchdaobimmaaGreatDoorBackAll
import Derived.Test.YtnbhchdaobimmaaGreatDoorPlanA
/- Contract: image.Compare, as the sorting calls it. -/
namespace Go.Proofs.YtnbhchdaobimmaaGreatDoor
open Go.RowKit Go.Img Go.Shelf Go.Rws
theorem fcmp_below (x y : Fi) (hx : x.path.length ≤ 1000) (hy : y.path.length ≤ 1000) (v : World) : Calls Tryz.prog 17 #[.agg x.cs.toArray, .agg y.cs.toArray] v fun e w' => e = .returned (.int .i64 (cmpF x y)) ∧ Below v.heap.size v w' := by
 refine (fcompare_any x y v hx hy).mono ?_
 rintro e w' ⟨he, n, hw⟩
 refine ⟨he, ?_⟩
 rw [hw]
 exact (((Below.refl _ v).alloc (Nat.le_refl _) _).alloc (by simp) _).trans ⟨rfl, rfl, rfl, Nat.le_refl _, fun _ _ => rfl⟩
end Go.Proofs.YtnbhchdaobimmaaGreatDoor
/- Contract: slices.Clone of files. -/
namespace Go.Pln
open Go.RowKit Go.Img
theorem files_one (es : List Fi) : ∀ u ∈ es.flatMap Fi.cs, u.oneCell' = true := fun u hu => by
 obtain ⟨s, _, h2⟩ := List.mem_flatMap.1 hu
 exact fi_one s u h2
end Go.Pln
namespace Go.Proofs.YtnbhchdaobimmaaGreatDoor
open Go.RowKit Go.Img Go.Pln Go.Shelf Go.Rws
attribute [local go_sem] Oper.semAt_some
set_option maxRecDepth 100000 in
theorem infoFi16 : (Tryz.prog.info? 51).map (fun i => (i.zero, i.size, i.bytes)) = some (some (.agg Fi.zero.cs.toArray), 5, 56) := by kernel_rfl
set_option maxRecDepth 100000 in
theorem nilFi1 (w : World) : (binOp .eql 27 (.slice none 0 0) (.slice none 0 0)).run Tryz.prog w = .ok (.bool true) w := by kernel_rfl
set_option maxRecDepth 100000 in
theorem nilFi2 (g off n cap : Nat) (w : World) : (binOp .eql 27 (.slice (some ⟨g, off, none⟩) n cap) (.slice none 0 0)).run Tryz.prog w = .ok (.bool false) w := by kernel_rfl
set_option maxHeartbeats 4000000 in
set_option maxRecDepth 100000 in
theorem cloneFi_any (l : List Fi) (u : Value) (w : World) (hl : RowsAt Fi.cs 5 w u l) (hN : Nice u) (hn : l.length ≤ 50000) :
  Calls Tryz.prog 36 #[u] w fun e w' => ∃ v, e = .returned v ∧ OwnR Fi.cs 5 51 w v l w' := by
 have hfm := hl.form
 rcases hN with rfl | ⟨g, off, n, c, rfl, hc⟩
 ·obtain ⟨a, c, hf⟩ := hfm
  simp only [Value.slice.injEq] at hf
  have h0 : l = [] := List.length_eq_zero_iff.1 hf.2.1.symm
  subst h0
  clear hl hf hn
  have hb := nilFi1
  go_enter Tryz.func36, Tryz.ntmps36
  go_wp2_with fail
  refine bodyPost_ret (results_tmp Tryz.results36 _ _ _) rfl ?_
  exact ⟨_, rfl, ⟨rfl, .inl ⟨rfl, rfl⟩⟩, Below.refl _ _⟩
 ·obtain ⟨a, c', hf⟩ := hfm
  simp only [Value.slice.injEq] at hf
  obtain ⟨rfl, rfl, rfl⟩ := hf
  have HM := hide (OwnR.made (cs := Fi.cs) (z := 5) (T := 51) (Below.refl w.heap.size w))
  have HR := hide (hl.below ((Below.refl _ w).alloc (Nat.le_refl _) (.cells #[] 51)))
  clear hl
  have hb := nilFi2
  go_enter Tryz.func36, Tryz.ntmps36
  go_wp2_with (at_builtin; refine OwnR.appendAll HM.out l Fi.cs_length (files_one l) (by decide) infoFi16 rfl (by simp; omega) (by decide) rfl _ _ 27 Tryz.underlying27 rfl rfl rfl HR.out ?_; intro a1 c1 w3 hO; have HO3 := hide hO; clear hO)
  refine bodyPost_ret (results_tmp Tryz.results36 _ _ _) rfl ?_
  have h9 := HO3.out
  simp only [List.nil_append] at h9
  exact ⟨_, rfl, h9⟩
end Go.Proofs.YtnbhchdaobimmaaGreatDoor
/- Runs that are put together in order, by exchanges: plain, of no program. -/
namespace Go.Stb
open Go.Sort
variable {α : Type} {lt : α → α → Bool}
/-- In order. -/
def Sd (lt : α → α → Bool) (l : List α) : Prop := l.Pairwise fun a b => lt b a = false
theorem asym (h : SWO lt) {a b : α} (e : lt a b = true) : lt b a = false := by
 cases e2 : lt b a with
 | false => rfl
 | true => have := h.trans a b a e e2; rw [h.irrefl] at this; cases this
/-- At most. -/
theorem le_trans (h : SWO lt) {a b c : α} (e : lt b a = false) (e2 : lt c b = false) : lt c a = false := h.ntrans c b a e2 e
theorem lt_le (h : SWO lt) {a b c : α} (e : lt a b = true) (e2 : lt c b = false) : lt a c = true := by
 cases e3 : lt a c with
 | true => rfl
 | false => have := h.ntrans a c b e3 e2; rw [e] at this; cases this
theorem le_lt (h : SWO lt) {a b c : α} (e : lt b a = false) (e2 : lt b c = true) : lt a c = true := by
 cases e3 : lt a c with
 | true => rfl
 | false => have := h.ntrans b a c e e3; rw [e2] at this; cases this
theorem set_at {P T : List α} {x y : α} {p : Nat} (hp : p = P.length) : (P ++ x :: T).set p y = P ++ y :: T := by
 subst hp
 rw [List.set_append, if_neg (by omega), Nat.sub_self, List.set_cons_zero]
theorem get_at {P T : List α} {x : α} {p : Nat} (hp : p = P.length) : (P ++ x :: T)[p]? = some x := by
 subst hp
 rw [List.getElem?_append_right (Nat.le_refl _), Nat.sub_self]
 rfl
/-- Two that change their places. -/
def swp (l : List α) (p q : Nat) (x y : α) : List α := (l.set p y).set q x
theorem swp_mid {P Q R : List α} {x y : α} {p q : Nat} (hp : p = P.length) (hq : q = P.length + 1 + Q.length) : swp (P ++ x :: (Q ++ y :: R)) p q x y = P ++ y :: (Q ++ x :: R) := by
 unfold swp
 rw [set_at hp]
 have e : P ++ y :: (Q ++ y :: R) = (P ++ y :: Q) ++ y :: R := by simp
 rw [e, set_at (by simp; omega)]
 simp
theorem swp_mid' {P Q R : List α} {x y : α} {p q : Nat} (hp : p = P.length) (hq : q = P.length + 1 + Q.length) : swp (P ++ x :: (Q ++ y :: R)) q p y x = P ++ y :: (Q ++ x :: R) := by
 unfold swp
 have e : P ++ x :: (Q ++ y :: R) = (P ++ x :: Q) ++ y :: R := by simp
 rw [e, set_at (by simp; omega)]
 have e : (P ++ x :: Q) ++ x :: R = P ++ x :: (Q ++ x :: R) := by simp
 rw [e, set_at hp]
theorem swp_next {P R : List α} {x y : α} {p : Nat} (hp : p = P.length) : swp (P ++ x :: y :: R) p (p + 1) x y = P ++ y :: x :: R := swp_mid (Q := []) hp (by simp; omega)
theorem swp_next' {P R : List α} {x y : α} {p : Nat} (hp : p = P.length) : swp (P ++ x :: y :: R) (p + 1) p y x = P ++ y :: x :: R := swp_mid' (Q := []) hp (by simp; omega)
/-- Sorted by places. -/
def SI (lt : α → α → Bool) (l : List α) (a b : Nat) : Prop := ∀ i j x y, a ≤ i → i ≤ j → j < b → l[i]? = some x → l[j]? = some y → lt y x = false
/-- One more is put in from behind. -/
structure Ins (lt : α → α → Bool) (X D Z : List α) (i : Nat) (m : List α) : Prop where
 ex : ∃ S T, m = X ++ S ++ T ++ Z ∧ Sd lt S ∧ (S ++ T).Perm D ∧ (X.length + S.length = i ∨ D = [])
theorem Ins.start {X D Z : List α} : Ins lt X D Z (X.length + 1) (X ++ D ++ Z) := by
 cases D with
 | nil => exact ⟨[], [], by simp, List.Pairwise.nil, List.Perm.refl _, .inr rfl⟩
 | cons d D => exact ⟨[d], D, by simp, List.pairwise_singleton _ _, List.Perm.refl _, .inl rfl⟩
theorem Ins.done {X D Z m : List α} {i : Nat} (h : Ins lt X D Z i m) (hi : X.length + D.length ≤ i) : ∃ M, m = X ++ M ++ Z ∧ Sd lt M ∧ M.Perm D := by
 obtain ⟨S, T, e, hs, hp, hl⟩ := h
 have hlen := hp.length_eq
 rw [List.length_append] at hlen
 have hT : T = [] := by
  rcases hl with h1 | h1
  ·exact List.length_eq_zero_iff.1 (by omega)
  ·rw [h1] at hlen; rw [h1] at hp; exact (List.append_eq_nil_iff.1 hp.eq_nil).2
 subst hT
 rw [List.append_nil] at hp
 exact ⟨S, by simpa using e, hs, hp⟩
/-- While the one at j goes to its place. -/
structure InsJ (lt : α → α → Bool) (X D Z : List α) (i j : Nat) (m : List α) : Prop where
 ex : ∃ S1 y S2 T, m = X ++ S1 ++ y :: (S2 ++ T ++ Z) ∧ Sd lt (S1 ++ S2) ∧ (∀ x ∈ S2, lt y x = true) ∧ (S1 ++ y :: (S2 ++ T)).Perm D ∧ X.length + S1.length = j ∧ X.length + S1.length + S2.length = i
theorem Ins.enter {X D Z m : List α} {i : Nat} (h : Ins lt X D Z i m) (hi : i < X.length + D.length) (hx : X.length < i) : InsJ lt X D Z i i m := by
 obtain ⟨S, T, e, hs, hp, hl⟩ := h
 have hlen := hp.length_eq
 rw [List.length_append] at hlen
 rcases hl with h1 | h1
 ·cases T with
  | nil => simp at hlen; omega
  | cons y T => exact ⟨S, y, [], T, by rw [e]; simp, by simpa using hs, (fun x hx => by cases hx), by simpa using hp, by omega, by simp; omega⟩
 ·rw [h1] at hi; simp at hi; omega
theorem InsJ.leave (hw : SWO lt) {X D Z m : List α} {i j : Nat} (h : InsJ lt X D Z i j m) (hs : j ≤ X.length ∨ ∃ x y, m[j - 1]? = some x ∧ m[j]? = some y ∧ lt y x = false) : Ins lt X D Z (i + 1) m := by
 obtain ⟨S1, y, S2, T, e, hS, hy, hp, hj, hi⟩ := h
 refine ⟨S1 ++ y :: S2, T, by rw [e]; simp, ?_, by simpa using hp, .inl (by simp; omega)⟩
 obtain ⟨h1, h2, h3⟩ := List.pairwise_append.1 hS
 have hS1 : ∀ x ∈ S1, lt y x = false := by
  intro x hx
  rcases hs with h4 | ⟨x2, y2, e2, e3, h5⟩
  ·have : S1 = [] := List.length_eq_zero_iff.1 (by omega)
   rw [this] at hx; cases hx
  ·rcases List.eq_nil_or_concat S1 with h6 | ⟨A, z, h6⟩
   ·rw [h6] at hx; cases hx
   ·subst h6
    have ez : m[j - 1]? = some z := by
     rw [e, show X ++ A.concat z ++ y :: (S2 ++ T ++ Z) = (X ++ A) ++ z :: (y :: (S2 ++ T ++ Z)) by simp]
     exact get_at (by simp at hj ⊢; omega)
    have ey : m[j]? = some y := by
     rw [e]
     exact get_at (by simp at hj ⊢; omega)
    rw [ez] at e2
    rw [ey] at e3
    have e4 : z = x2 := Option.some.inj e2
    have e5 : y = y2 := Option.some.inj e3
    rw [← e4, ← e5] at h5
    rw [List.concat_eq_append] at hx h1
    rcases List.mem_append.1 hx with h7 | h7
    ·exact le_trans hw ((List.pairwise_append.1 h1).2.2 x h7 z (by simp)) h5
    ·rw [List.mem_singleton.1 h7]; exact h5
 refine List.pairwise_append.2 ⟨h1, List.pairwise_cons.2 ⟨fun x hx => asym hw (hy x hx), h2⟩, ?_⟩
 intro a ha b hb
 rcases List.mem_cons.1 hb with h4 | h4
 ·rw [h4]; exact hS1 a ha
 ·exact h3 a ha b h4
theorem InsJ.move {X D Z m : List α} {i j : Nat} (h : InsJ lt X D Z i j m) (hj : X.length < j) {x y : α} (hx : m[j - 1]? = some x) (hy : m[j]? = some y) (hl : lt y x = true) : InsJ lt X D Z i (j - 1) (swp m j (j - 1) y x) := by
 obtain ⟨S1, y', S2, T, e, hS, hys, hp, hj', hi⟩ := h
 rcases List.eq_nil_or_concat S1 with h6 | ⟨A, z, h6⟩
 ·rw [h6] at hj'; simp at hj'; omega
 ·subst h6
  have e9 : X ++ A.concat z ++ y' :: (S2 ++ T ++ Z) = (X ++ A) ++ z :: (y' :: (S2 ++ T ++ Z)) := by simp
  have ez : m[j - 1]? = some z := by
   rw [e, e9]
   exact get_at (by simp at hj' ⊢; omega)
  have ey : m[j]? = some y' := by
   rw [e]
   exact get_at (by simp at hj' ⊢; omega)
  rw [ez] at hx
  rw [ey] at hy
  have e4 : z = x := Option.some.inj hx
  have e5 : y' = y := Option.some.inj hy
  rw [← e4, ← e5] at hl
  rw [← e4, ← e5]
  rw [List.concat_eq_append] at hS hp hj' hi
  refine ⟨A, y', z :: S2, T, ?_, by simpa using hS, ?_, ?_, by simp at hj'; omega, by simp at hi ⊢; omega⟩
  ·rw [e, e9]
   obtain ⟨p, rfl⟩ : ∃ p, j = p + 1 := ⟨j - 1, by omega⟩
   rw [Nat.add_sub_cancel, swp_next' (by simp at hj' ⊢; omega)]
   simp
  ·intro v hv
   rcases List.mem_cons.1 hv with h7 | h7
   ·rw [h7]; exact hl
   ·exact hys v h7
  ·refine List.Perm.trans ?_ hp
   rw [List.append_assoc]
   refine List.Perm.append_left A ?_
   show (y' :: ((z :: S2) ++ T)).Perm ([z] ++ y' :: (S2 ++ T))
   exact List.Perm.swap z y' _
theorem InsJ.perm {X D Z m : List α} {i j : Nat} (h : InsJ lt X D Z i j m) : m.Perm (X ++ D ++ Z) := by
 obtain ⟨S1, y, S2, T, e, _, _, hp, _, _⟩ := h
 rw [e]
 have := (List.Perm.append_left X hp).append_right Z
 simpa using this
end Go.Stb
/- Runs that are put together in order: parts that change places, halves that are put together, runs that grow; plain, of no program. -/
namespace Go.Stb
open Go.Sort
variable {α : Type} {lt : α → α → Bool}
/-- Two parts of one length change their places, one by one. -/
def Swr (X A Y B Z : List α) (k : Nat) (m : List α) : Prop := ∃ A1 A2 B1 B2, A = A1 ++ A2 ∧ B = B1 ++ B2 ∧ A1.length = k ∧ B1.length = k ∧ m = X ++ (B1 ++ (A2 ++ (Y ++ (A1 ++ (B2 ++ Z)))))
theorem Swr.start {X A Y B Z : List α} : Swr X A Y B Z 0 (X ++ (A ++ (Y ++ (B ++ Z)))) := ⟨[], A, [], B, rfl, rfl, rfl, rfl, by simp⟩
theorem Swr.done {X A Y B Z m : List α} {k : Nat} (h : Swr X A Y B Z k m) (hA : A.length ≤ k) (hB : B.length ≤ k) : m = X ++ (B ++ (Y ++ (A ++ Z))) := by
 obtain ⟨A1, A2, B1, B2, e1, e2, h1, h2, e⟩ := h
 have z1 : A2 = [] := List.length_eq_zero_iff.1 (by have := congrArg List.length e1; rw [List.length_append] at this; omega)
 have z2 : B2 = [] := List.length_eq_zero_iff.1 (by have := congrArg List.length e2; rw [List.length_append] at this; omega)
 subst z1 z2
 rw [List.append_nil] at e1 e2
 rw [e, e1, e2]
 simp
theorem Swr.step {X A Y B Z m : List α} {k p q : Nat} (h : Swr X A Y B Z k m) (hA : k < A.length) (hB : k < B.length) (hp : p = X.length + k) (hq : q = X.length + A.length + Y.length + k) :
  ∃ x y, m[p]? = some x ∧ m[q]? = some y ∧ Swr X A Y B Z (k + 1) (swp m p q x y) := by
 obtain ⟨A1, A2, B1, B2, e1, e2, h1, h2, e⟩ := h
 cases A2 with
 | nil => exfalso; rw [e1, List.append_nil] at hA; omega
 | cons x A2 =>
  cases B2 with
  | nil => exfalso; rw [e2, List.append_nil] at hB; omega
  | cons y B2 =>
   have hl : A.length = k + 1 + A2.length := by rw [e1]; simp; omega
   have e3 : m = (X ++ B1) ++ x :: ((A2 ++ (Y ++ A1)) ++ y :: (B2 ++ Z)) := by rw [e]; simp
   have hP : p = (X ++ B1).length := by rw [List.length_append]; omega
   have hQ : q = (X ++ B1).length + 1 + (A2 ++ (Y ++ A1)).length := by simp only [List.length_append]; omega
   refine ⟨x, y, by rw [e3]; exact get_at hP, ?_, A1 ++ [x], A2, B1 ++ [y], B2, by rw [e1]; simp, by rw [e2]; simp, by simp; omega, by simp; omega, ?_⟩
   ·rw [e3, show (X ++ B1) ++ x :: ((A2 ++ (Y ++ A1)) ++ y :: (B2 ++ Z)) = ((X ++ B1) ++ x :: (A2 ++ (Y ++ A1))) ++ y :: (B2 ++ Z) by simp]
    exact get_at (by rw [hQ]; simp; omega)
   ·rw [e3, swp_mid hP hQ]
    simp
/-- Two parts beside one another change their places. -/
def Rot (tg : List α) (p i j : Nat) (m : List α) : Prop := ∃ X U V Z, m = X ++ (U ++ (V ++ Z)) ∧ U.length = i ∧ V.length = j ∧ X.length + i = p ∧ X ++ (V ++ (U ++ Z)) = tg
theorem Rot.start {X U V Z : List α} {p : Nat} (hp : p = X.length + U.length) : Rot (X ++ (V ++ (U ++ Z))) p U.length V.length (X ++ (U ++ (V ++ Z))) := ⟨X, U, V, Z, rfl, rfl, rfl, hp.symm, rfl⟩
theorem cut_at {l : List α} {n : Nat} (h : n ≤ l.length) : ∃ A B, l = A ++ B ∧ A.length = n := ⟨l.take n, l.drop n, (List.take_append_drop n l).symm, by rw [List.length_take]; omega⟩
/-- The right part is the shorter one. -/
theorem Rot.left {tg m : List α} {p i j : Nat} (h : Rot tg p i j m) (hij : j < i) : ∃ X A Y B Z, m = X ++ (A ++ (Y ++ (B ++ Z))) ∧ A.length = j ∧ B.length = j ∧ X.length + i = p ∧ X.length + A.length + Y.length = p ∧ Rot tg p (i - j) j (X ++ (B ++ (Y ++ (A ++ Z)))) := by
 obtain ⟨X, U, V, Z, e, h1, h2, h3, h4⟩ := h
 obtain ⟨A, Y, e1, hA⟩ := cut_at (l := U) (n := j) (by omega)
 have hl : A.length + Y.length = i := by rw [← h1, e1, List.length_append]
 refine ⟨X, A, Y, V, Z, by rw [e, e1]; simp, hA, h2, h3, by omega, X ++ V, Y, A, Z, by simp, by omega, hA, by simp; omega, ?_⟩
 rw [← h4, e1]
 simp
/-- The left part is the shorter one. -/
theorem Rot.right {tg m : List α} {p i j : Nat} (h : Rot tg p i j m) (hij : i < j) : ∃ X A Y B Z, m = X ++ (A ++ (Y ++ (B ++ Z))) ∧ A.length = i ∧ B.length = i ∧ X.length + i = p ∧ X.length + A.length + Y.length + i = p + j ∧ Rot tg p i (j - i) (X ++ (B ++ (Y ++ (A ++ Z)))) := by
 obtain ⟨X, U, V, Z, e, h1, h2, h3, h4⟩ := h
 obtain ⟨Y, B, e1, hY⟩ := cut_at (l := V) (n := j - i) (by omega)
 have hl : Y.length + B.length = j := by rw [← h2, e1, List.length_append]
 refine ⟨X, U, Y, B, Z, by rw [e, e1]; simp, h1, by omega, h3, by omega, X, B, Y, U ++ Z, by simp, by omega, hY, by omega, ?_⟩
 rw [← h4, e1]
 simp
theorem Rot.last {tg m : List α} {p i : Nat} (h : Rot tg p i i m) : ∃ X A B Z, m = X ++ (A ++ ([] ++ (B ++ Z))) ∧ A.length = i ∧ B.length = i ∧ X.length + i = p ∧ X ++ (B ++ ([] ++ (A ++ Z))) = tg := by
 obtain ⟨X, U, V, Z, e, h1, h2, h3, h4⟩ := h
 exact ⟨X, U, V, Z, by rw [e]; simp, h1, h2, h3, by rw [← h4]; simp⟩
/-- One goes to the right. -/
def Mvr (X T : List α) (x : α) (k : Nat) (m : List α) : Prop := ∃ P Q, T = P ++ Q ∧ X.length + P.length = k ∧ m = X ++ (P ++ x :: Q)
theorem Mvr.start {X T : List α} {x : α} {k : Nat} (hk : k = X.length) : Mvr X T x k (X ++ x :: T) := ⟨[], T, rfl, by simp [hk], by simp⟩
theorem Mvr.step {X T m : List α} {x : α} {k : Nat} (h : Mvr X T x k m) (hk : k < X.length + T.length) : ∃ y, m[k]? = some x ∧ m[k + 1]? = some y ∧ Mvr X T x (k + 1) (swp m k (k + 1) x y) := by
 obtain ⟨P, Q, e1, h1, e⟩ := h
 cases Q with
 | nil => exfalso; rw [e1, List.append_nil] at hk; omega
 | cons y Q =>
  have e3 : m = (X ++ P) ++ x :: y :: Q := by rw [e]; simp
  have hP : k = (X ++ P).length := by rw [List.length_append]; omega
  refine ⟨y, by rw [e3]; exact get_at hP, ?_, P ++ [y], Q, by rw [e1]; simp, by simp; omega, ?_⟩
  ·rw [e3, show (X ++ P) ++ x :: y :: Q = ((X ++ P) ++ [x]) ++ y :: Q by simp]
   exact get_at (by rw [hP]; simp; omega)
  ·rw [e3, swp_next hP]
   simp
/-- One goes to the left. -/
def Mvl (X T Z : List α) (y : α) (k : Nat) (m : List α) : Prop := ∃ P Q, T = P ++ Q ∧ X.length + P.length = k ∧ m = X ++ (P ++ y :: (Q ++ Z))
theorem Mvl.start {X T Z : List α} {y : α} {k : Nat} (hk : k = X.length + T.length) : Mvl X T Z y k (X ++ (T ++ y :: Z)) := ⟨T, [], by simp, hk.symm, by simp⟩
theorem Mvl.step {X T Z m : List α} {y : α} {k : Nat} (h : Mvl X T Z y k m) (hk : X.length < k) : ∃ x, m[k]? = some y ∧ m[k - 1]? = some x ∧ Mvl X T Z y (k - 1) (swp m k (k - 1) y x) := by
 obtain ⟨P, Q, e1, h1, e⟩ := h
 rcases List.eq_nil_or_concat P with h6 | ⟨A, x, h6⟩
 ·exfalso; rw [h6] at h1; simp at h1; omega
 ·rw [List.concat_eq_append] at h6
  subst h6
  obtain ⟨p, rfl⟩ : ∃ p, k = p + 1 := ⟨k - 1, by omega⟩
  have e3 : m = (X ++ A) ++ x :: y :: (Q ++ Z) := by rw [e]; simp
  have hP : p = (X ++ A).length := by simp at h1 ⊢; omega
  rw [Nat.add_sub_cancel]
  refine ⟨x, ?_, by rw [e3]; exact get_at hP, A, x :: Q, by rw [e1]; simp, by simp at h1 ⊢; omega, ?_⟩
  ·rw [e3, show (X ++ A) ++ x :: y :: (Q ++ Z) = ((X ++ A) ++ [x]) ++ y :: (Q ++ Z) by simp]
   exact get_at (by rw [hP]; simp; omega)
  ·rw [e3, swp_next' hP]
   simp
theorem last_is {X A T : List α} {z x : α} {l : List α} {k : Nat} (e : l = X ++ ((A ++ [z]) ++ T)) (hk : k = X.length + A.length) (hx : l[k]? = some x) : z = x := by
 rw [e, show X ++ ((A ++ [z]) ++ T) = (X ++ A) ++ z :: T by simp, get_at (by simp; omega)] at hx
 exact Option.some.inj hx
theorem head_is {X T : List α} {z x : α} {l : List α} {k : Nat} (e : l = X ++ z :: T) (hk : k = X.length) (hx : l[k]? = some x) : z = x := by
 rw [e, get_at hk] at hx
 exact Option.some.inj hx
/-- All of a sorted list are at most its last one. -/
theorem Sd.last (hw : SWO lt) {A : List α} {z : α} (h : Sd lt (A ++ [z])) : ∀ x ∈ A ++ [z], lt z x = false := by
 intro x hx
 rcases List.mem_append.1 hx with h1 | h1
 ·exact (List.pairwise_append.1 h).2.2 x h1 z (by simp)
 ·rw [List.mem_singleton.1 h1]; exact hw.irrefl z
theorem Sd.head (hw : SWO lt) {A : List α} {z : α} (h : Sd lt (z :: A)) : ∀ x ∈ z :: A, lt x z = false := by
 intro x hx
 rcases List.mem_cons.1 hx with h1 | h1
 ·rw [h1]; exact hw.irrefl z
 ·exact (List.pairwise_cons.1 h).1 x h1
theorem baseA (hw : SWO lt) {l X P Q Z : List α} {x : α} {i : Nat} (e : l = X ++ x :: ((P ++ Q) ++ Z)) (hR : Sd lt (P ++ Q)) (hi : i = X.length + 1 + P.length) (h1 : i = X.length + 1 ∨ ∃ z, l[i - 1]? = some z ∧ lt z x = true) (h2 : i = X.length + 1 + (P ++ Q).length ∨ ∃ z, l[i]? = some z ∧ lt z x = false) : Sd lt (P ++ x :: Q) := by
 obtain ⟨s1, s2, s3⟩ := List.pairwise_append.1 hR
 have hP : ∀ u ∈ P, lt u x = true := by
  rcases List.eq_nil_or_concat P with h6 | ⟨A, z, h6⟩
  ·rw [h6]; intro u hu; cases hu
  ·rw [List.concat_eq_append] at h6
   subst h6
   rcases h1 with h1 | ⟨z', e1, h1⟩
   ·exfalso; simp at hi; omega
   ·have ez : z = z' := last_is (X := X ++ [x]) (A := A) (T := Q ++ Z) (by rw [e]; simp) (by simp at hi ⊢; omega) e1
    subst ez
    intro u hu
    exact le_lt hw (Sd.last hw s1 u hu) h1
 have hQ : ∀ u ∈ Q, lt u x = false := by
  cases Q with
  | nil => intro u hu; cases hu
  | cons z Q =>
   rcases h2 with h2 | ⟨z', e1, h2⟩
   ·exfalso; simp at h2; omega
   ·have ez : z = z' := head_is (X := X ++ x :: P) (T := Q ++ Z) (by rw [e]; simp) (by simp; omega) e1
    subst ez
    intro u hu
    exact le_trans hw h2 (Sd.head hw s2 u hu)
 refine List.pairwise_append.2 ⟨s1, List.pairwise_cons.2 ⟨hQ, s2⟩, fun a ha b hb => ?_⟩
 rcases List.mem_cons.1 hb with h4 | h4
 ·rw [h4]; exact asym hw (hP a ha)
 ·exact s3 a ha b h4
theorem baseB (hw : SWO lt) {l X P Q Z : List α} {y : α} {i : Nat} (e : l = X ++ ((P ++ Q) ++ y :: Z)) (hR : Sd lt (P ++ Q)) (hi : i = X.length + P.length) (h1 : i = X.length ∨ ∃ z, l[i - 1]? = some z ∧ lt y z = false) (h2 : i = X.length + (P ++ Q).length ∨ ∃ z, l[i]? = some z ∧ lt y z = true) : Sd lt (P ++ y :: Q) := by
 obtain ⟨s1, s2, s3⟩ := List.pairwise_append.1 hR
 have hP : ∀ u ∈ P, lt y u = false := by
  rcases List.eq_nil_or_concat P with h6 | ⟨A, z, h6⟩
  ·rw [h6]; intro u hu; cases hu
  ·rw [List.concat_eq_append] at h6
   subst h6
   rcases h1 with h1 | ⟨z', e1, h1⟩
   ·exfalso; simp at hi; omega
   ·have ez : z = z' := last_is (X := X) (A := A) (T := Q ++ y :: Z) (by rw [e]; simp) (by simp at hi ⊢; omega) e1
    subst ez
    intro u hu
    exact le_trans hw (Sd.last hw s1 u hu) h1
 have hQ : ∀ u ∈ Q, lt y u = true := by
  cases Q with
  | nil => intro u hu; cases hu
  | cons z Q =>
   rcases h2 with h2 | ⟨z', e1, h2⟩
   ·exfalso; simp at h2; omega
   ·have ez : z = z' := head_is (X := X ++ P) (T := Q ++ y :: Z) (by rw [e]; simp) (by simp; omega) e1
    subst ez
    intro u hu
    exact lt_le hw h2 (Sd.head hw s2 u hu)
 refine List.pairwise_append.2 ⟨s1, List.pairwise_cons.2 ⟨fun u hu => asym hw (hQ u hu), s2⟩, fun a ha b hb => ?_⟩
 rcases List.mem_cons.1 hb with h4 | h4
 ·rw [h4]; exact hP a ha
 ·exact s3 a ha b h4
theorem cross (hw : SWO lt) {l X L1 L2 R1 R2 Z : List α} {s f : Nat} (e : l = X ++ (L1 ++ (L2 ++ (R1 ++ (R2 ++ Z))))) (hL : Sd lt (L1 ++ L2)) (hR : Sd lt (R1 ++ R2)) (hs : s = X.length + L1.length) (hf : f = X.length + L1.length + L2.length + R1.length)
  (hA : L1 = [] ∨ R2 = [] ∨ ∃ x y, l[s - 1]? = some x ∧ l[f]? = some y ∧ lt y x = false) (hB : L2 = [] ∨ R1 = [] ∨ ∃ x y, l[s]? = some x ∧ l[f - 1]? = some y ∧ lt y x = true) : ∀ u ∈ L1 ++ R1, ∀ v ∈ L2 ++ R2, lt v u = false := by
 obtain ⟨a1, a2, a3⟩ := List.pairwise_append.1 hL
 obtain ⟨b1, b2, b3⟩ := List.pairwise_append.1 hR
 have hLR : ∀ u ∈ L1, ∀ v ∈ R2, lt v u = false := by
  intro u hu v hv
  rcases List.eq_nil_or_concat L1 with h6 | ⟨A, z, h6⟩
  ·rw [h6] at hu; cases hu
  ·rw [List.concat_eq_append] at h6
   subst h6
   cases R2 with
   | nil => cases hv
   | cons y R2 =>
    rcases hA with h | h | ⟨x', y', e1, e2, h⟩
    ·simp at h
    ·cases h
    ·have ez : z = x' := last_is (X := X) (A := A) (T := L2 ++ (R1 ++ (y :: R2 ++ Z))) e (by simp at hs; omega) e1
     have ey : y = y' := head_is (X := X ++ ((A ++ [z]) ++ (L2 ++ R1))) (T := R2 ++ Z) (by rw [e]; simp) (by simp at hf ⊢; omega) e2
     subst ez ey
     exact le_trans hw (Sd.last hw a1 u hu) (le_trans hw h (Sd.head hw b2 v hv))
 have hRL : ∀ u ∈ R1, ∀ v ∈ L2, lt v u = false := by
  intro u hu v hv
  rcases List.eq_nil_or_concat R1 with h6 | ⟨A, z, h6⟩
  ·rw [h6] at hu; cases hu
  ·rw [List.concat_eq_append] at h6
   subst h6
   cases L2 with
   | nil => cases hv
   | cons y L2 =>
    rcases hB with h | h | ⟨x', y', e1, e2, h⟩
    ·cases h
    ·simp at h
    ·have ey : y = x' := head_is (X := X ++ L1) (T := L2 ++ ((A ++ [z]) ++ (R2 ++ Z))) (by rw [e]; simp) (by simp; omega) e1
     have ez : z = y' := last_is (X := X ++ (L1 ++ y :: L2)) (A := A) (T := R2 ++ Z) (by rw [e]; simp) (by simp at hf ⊢; omega) e2
     subst ez ey
     exact le_trans hw (Sd.last hw b1 u hu) (le_trans hw (asym hw h) (Sd.head hw a2 v hv))
 intro u hu v hv
 rcases List.mem_append.1 hu with h1 | h1 <;> rcases List.mem_append.1 hv with h2 | h2
 ·exact a3 u h1 v h2
 ·exact hLR u h1 v h2
 ·exact hRL u h1 v h2
 ·exact b3 u h1 v h2
theorem joined {L1 L2 R1 R2 M1 M2 : List α} (h1 : Sd lt M1) (h2 : Sd lt M2) (p1 : M1.Perm (L1 ++ R1)) (p2 : M2.Perm (L2 ++ R2)) (hc : ∀ u ∈ L1 ++ R1, ∀ v ∈ L2 ++ R2, lt v u = false) : Sd lt (M1 ++ M2) ∧ (M1 ++ M2).Perm ((L1 ++ L2) ++ (R1 ++ R2)) := by
 refine ⟨List.pairwise_append.2 ⟨h1, h2, fun a ha b hb => hc a (p1.mem_iff.1 ha) b (p2.mem_iff.1 hb)⟩, (p1.append p2).trans ?_⟩
 rw [List.append_assoc, List.append_assoc]
 refine List.Perm.append_left L1 ?_
 rw [← List.append_assoc, ← List.append_assoc]
 exact List.Perm.append_right R2 List.perm_append_comm
/-- Runs of one length, the last one at most so long. -/
inductive Runs (lt : α → α → Bool) (s : Nat) : List α → Prop
 | short {l : List α} (h : l.length ≤ s) (hs : Sd lt l) : Runs lt s l
 | cons {c l : List α} (h : c.length = s) (hs : Sd lt c) (hl : Runs lt s l) : Runs lt s (c ++ l)
theorem Runs.sorted {s : Nat} {l : List α} (h : Runs lt s l) (hl : l.length ≤ s) : Sd lt l := by
 cases h with
 | short _ hs => exact hs
 | @cons c r h hs hr =>
  have : r = [] := List.length_eq_zero_iff.1 (by rw [List.length_append] at hl; omega)
  subst this
  simpa using hs
/-- What may stand ahead of runs. -/
def Pre (lt : α → α → Bool) (s : Nat) (D : List α) : Prop := ∀ E, Runs lt s E → Runs lt s (D ++ E)
theorem Pre.nil {s : Nat} : Pre lt s [] := fun _ h => h
theorem Pre.snoc {s : Nat} {D c : List α} (h : Pre lt s D) (hc : c.length = s) (hs : Sd lt c) : Pre lt s (D ++ c) := fun E hE => by
 rw [List.append_assoc]
 exact h _ (Runs.cons hc hs hE)
theorem Runs.two {s : Nat} {T : List α} (h : Runs lt s T) (hs : 0 < s) (hT : s + s ≤ T.length) : ∃ A B C, T = A ++ (B ++ C) ∧ A.length = s ∧ B.length = s ∧ Sd lt A ∧ Sd lt B ∧ Runs lt s C := by
 cases h with
 | short h _ => omega
 | @cons c r hc hsc hr =>
  rw [List.length_append] at hT
  cases hr with
  | short h2 hs2 => exact ⟨c, r, [], by simp, hc, by omega, hsc, hs2, .short (Nat.zero_le _) List.Pairwise.nil⟩
  | @cons d r hd hsd hr => exact ⟨c, d, r, rfl, hc, hd, hsc, hsd, hr⟩
theorem Runs.one {s : Nat} {T : List α} (h : Runs lt s T) (hT : s < T.length) (hT2 : T.length < s + s) : ∃ A B, T = A ++ B ∧ A.length = s ∧ Sd lt A ∧ Sd lt B := by
 cases h with
 | short h _ => omega
 | @cons c r hc hsc hr =>
  rw [List.length_append] at hT2
  exact ⟨c, r, rfl, hc, hsc, hr.sorted (by omega)⟩
end Go.Stb
/- Rows of structs of one's own: one is set whole; two change their places; of no program. -/
namespace Go.Rws
open Go.RowKit Go.Stb
variable {α : Type} {cs : α → List Value} {z : Nat} {T : TypeId} {W w w' : World} {vo : Value} {xs : List α} {P : Program}
theorem flat_setEl (hz : ∀ x, (cs x).length = z) {y : α} : ∀ {xs : List α} {p : Nat}, p < xs.length → (xs.set p y).flatMap cs = (xs.flatMap cs).take (p * z) ++ cs y ++ (xs.flatMap cs).drop (p * z + z)
 | [], p, h => by simp at h
 | a :: r, 0, _ => by
  rw [List.set_cons_zero, List.flatMap_cons, List.flatMap_cons, Nat.zero_mul, Nat.zero_add, List.take_zero, List.nil_append, show z = (cs a).length from (hz a).symm, List.drop_left]
 | a :: r, p + 1, h => by
  have ih := flat_setEl hz (y := y) (xs := r) (p := p) (by simpa using h)
  have e : (p + 1) * z = (cs a).length + p * z := by rw [hz, Nat.add_mul, Nat.one_mul, Nat.add_comm]
  rw [List.set_cons_succ, List.flatMap_cons, List.flatMap_cons, ih, e, Nat.add_assoc, List.take_length_add_append, List.drop_length_add_append]
  simp only [List.append_assoc]
theorem own_cell {base g n c t : Nat} {u : Value} {F : List Value} (h : w.ownsRow base T z (.slice (some ⟨g, 0, none⟩) n c) n F) (ht : t < F.length) : w.cell? ⟨g, t, none⟩ = some F[t] ∧ w.frozen? ⟨g, t, none⟩ = false ∧ (w.setCell ⟨g, t, none⟩ u).ownsRow base T z (.slice (some ⟨g, 0, none⟩) n c) n (F.set t u) := by
 obtain ⟨h0, h1⟩ := h
 rcases h1 with ⟨h1, _⟩ | ⟨g', cap, cur, h1, h2, h3, h4, h5, h6, h7⟩
 ·cases h1
 ·simp only [Value.slice.injEq, Option.some.injEq, Addr.mk.injEq, and_true] at h1
  obtain ⟨rfl, _, rfl⟩ := h1
  refine ⟨?_, frozen_of_row _ _ _ _ _ h3, by rw [List.length_set]; exact h0, .inr ⟨g, c, cur.setIfInBounds t u, rfl, h2, heap_setCell_same _ _ _ _ _ _ h3, h4, h5, by simpa using h6, ?_⟩⟩
  ·have hc : F[t]? = some F[t] := List.getElem?_eq_getElem ht
   conv at hc => lhs; rw [← h7]
   rw [List.getElem?_take_of_lt (by omega), Array.getElem?_toList] at hc
   rw [cell_of_row _ _ _ _ _ _ h3]
   exact hc
  ·rw [Array.toList_setIfInBounds, List.take_set, h7]
theorem set_many {F vs : List Value} {v : Value} {t : Nat} (h : t + (vs.length + 1) ≤ F.length) : (F.set t v).take (t + 1) ++ vs ++ (F.set t v).drop (t + 1 + vs.length) = F.take t ++ (v :: vs) ++ F.drop (t + (vs.length + 1)) := by
 have e1 : (F.set t v).take (t + 1) = F.take t ++ [v] := by
  rw [List.take_set, List.take_succ_eq_append_getElem (by omega), List.set_append, if_neg (by rw [List.length_take]; omega)]
  congr 1
  rw [List.length_take, Nat.min_eq_left (by omega), Nat.sub_self]
  rfl
 rw [e1, List.drop_set_of_lt (by omega)]
 simp only [List.append_assoc, List.nil_append, List.cons_append]
 rw [show t + 1 + vs.length = t + (vs.length + 1) by omega]
theorem own_setCells {base g n c : Nat} : ∀ (vs : List Value) (t : Nat) (F : List Value) (w : World), w.ownsRow base T z (.slice (some ⟨g, 0, none⟩) n c) n F → t + vs.length ≤ F.length → (w.setCells g t vs).ownsRow base T z (.slice (some ⟨g, 0, none⟩) n c) n (F.take t ++ vs ++ F.drop (t + vs.length))
 | [], t, F, w, h, _ => by
  rw [List.append_nil, List.length_nil, Nat.add_zero, List.take_append_drop]
  exact h
 | v :: vs, t, F, w, h, hl => by
  rw [List.length_cons] at hl
  have h1 := (own_cell (u := v) h (t := t) (by omega)).2.2
  have h2 := own_setCells vs (t + 1) (F.set t v) _ h1 (by rw [List.length_set]; omega)
  rw [set_many (by omega)] at h2
  exact h2
theorem Below.setCells : ∀ (vs : List Value) {base t g : Nat} {w0 w : World}, Below base w0 w → base ≤ g → Below base w0 (w.setCells g t vs)
 | [], _, _, _, _, _, h, _ => h
 | v :: vs, _, t, g, _, w, h, hg => Below.setCells vs (w := w.setCell ⟨g, t, none⟩ v) (h.setCell hg v) hg
/-- One is set whole. -/
theorem OwnR.setEl {g n c p : Nat} {y : α} (hz : ∀ x, (cs x).length = z) (h : OwnR cs z T W (.slice (some ⟨g, 0, none⟩) n c) xs w) (hp : p < xs.length) : OwnR cs z T W (.slice (some ⟨g, 0, none⟩) n c) (xs.set p y) (w.setCells g (p * z) (cs y)) := by
 have hgl := (h.own.lt g rfl).1
 obtain ⟨a, c', hf⟩ := h.form
 simp only [Value.slice.injEq] at hf
 have hn : n = xs.length := hf.2.1
 subst hn
 have hb : p * z + z ≤ xs.length * z := by
  have := Nat.mul_le_mul_right z (show p + 1 ≤ xs.length from hp)
  rwa [Nat.add_mul, Nat.one_mul] at this
 refine ⟨?_, Below.setCells _ h.below hgl⟩
 have h1 := own_setCells (cs y) (p * z) (xs.flatMap cs) w h.own (by rw [hz, flat_len hz]; exact hb)
 rw [hz, ← flat_setEl hz hp] at h1
 rw [List.length_set]
 exact h1
theorem OwnR.loadEl {g n c p : Nat} {x : α} (hz : ∀ x, (cs x).length = z) (h : OwnR cs z T W (.slice (some ⟨g, 0, none⟩) n c) xs w) (hx : xs[p]? = some x) (P : Program) : Sem.run P (loadCellsFrom ⟨g, p * z, none⟩ 0 z #[]) w = .ok (cs x).toArray w := by
 refine Go.Proofs.run_loadCellsFrom_list P w _ (cs x) z (hz x) fun j v hv => ?_
 rw [Addr.add_mid]
 exact (h.cellAt hz hx hv).1
theorem OwnR.storeEl {g n c p : Nat} {x y : α} (hz : ∀ x, (cs x).length = z) (h : OwnR cs z T W (.slice (some ⟨g, 0, none⟩) n c) xs w) (hx : xs[p]? = some x) (h1 : ∀ u ∈ cs y, u.oneCell' = true) (P : Program) : Sem.run P (storeCells ⟨g, p * z, none⟩ (cs y) 0) w = .ok () (w.setCells g (p * z) (cs y)) := by
 have hj : ∀ j, j < (cs y).length → ∃ u, (cs x)[j]? = some u := fun j hj => ⟨_, List.getElem?_eq_getElem (by rw [hz] at hj ⊢; exact hj)⟩
 refine run_storeCells_cells (P := P) g (p * z) (cs y) 0 w (fun j h2 => ?_) (fun j h2 => ?_) h1
 ·obtain ⟨u, hu⟩ := hj j h2
  rw [Nat.add_zero, (h.cellAt hz hx hu).1]
  rfl
 ·obtain ⟨u, hu⟩ := hj j h2
  exact (h.cellAt hz hx hu).2.1
/-- Two change their places, behind a draw. -/
theorem OwnR.swapEl {g n c p q : Nat} {x y : α} (hz : ∀ x, (cs x).length = z) (h : OwnR cs z T W (.slice (some ⟨g, 0, none⟩) n c) xs w) (hx : xs[p]? = some x) (hy : xs[q]? = some y) (h1 : ∀ x, ∀ u ∈ cs x, u.oneCell' = true) (P : Program) :
  Sem.run P (loadCellsFrom ⟨g, p * z, none⟩ 0 z #[]) w.drew = .ok (cs x).toArray w.drew ∧ Sem.run P (loadCellsFrom ⟨g, q * z, none⟩ 0 z #[]) w.drew = .ok (cs y).toArray w.drew ∧
  Sem.run P (storeCells ⟨g, p * z, none⟩ (cs y) 0) w.drew = .ok () (w.drew.setCells g (p * z) (cs y)) ∧
  Sem.run P (storeCells ⟨g, q * z, none⟩ (cs x) 0) (w.drew.setCells g (p * z) (cs y)) = .ok () ((w.drew.setCells g (p * z) (cs y)).setCells g (q * z) (cs x)) ∧
  OwnR cs z T W (.slice (some ⟨g, 0, none⟩) n c) (swp xs p q x y) ((w.drew.setCells g (p * z) (cs y)).setCells g (q * z) (cs x)) := by
 have hd := h.step ((Below.refl _ w).drew)
 have hp := (List.getElem?_eq_some_iff.1 hx).1
 have hq := (List.getElem?_eq_some_iff.1 hy).1
 have h2 := hd.setEl (y := y) hz hp
 obtain ⟨y2, hy2⟩ : ∃ y2, (xs.set p y)[q]? = some y2 := ⟨_, List.getElem?_eq_getElem (by rw [List.length_set]; exact hq)⟩
 exact ⟨hd.loadEl hz hx P, hd.loadEl hz hy P, hd.storeEl hz hx (h1 y) P, h2.storeEl hz hy2 (h1 x) P, h2.setEl (y := x) hz (by rw [List.length_set]; exact hq)⟩
end Go.Rws
/- Contract: slices' swapRange of files: two parts of one length change their places. -/
namespace Go.Proofs.YtnbhchdaobimmaaGreatDoor
open Go.RowKit Go.Img Go.Pln Go.Shelf Go.Rws Go.Stb
attribute [local go_sem] Oper.semAt_some
set_option maxRecDepth 100000 in
theorem isAggF5 (w : World) : (isAgg 51).run Tryz.prog w = .ok true w := by kernel_rfl
set_option maxRecDepth 100000 in
theorem sizeOfF5 (w : World) : (Go.sizeOf 51).run Tryz.prog w = .ok 5 w := by kernel_rfl
set_option maxRecDepth 100000 in
theorem mixedO : Tryz.prog.follows .mixedOrders = true := by kernel_rfl
/-- A row of files of one's own. -/
abbrev Fw (W : World) (g n c : Nat) (l : List Fi) (w : World) : Prop := OwnR Fi.cs 5 51 W (.slice (some ⟨g, 0, none⟩) n c) l w
theorem Fw.len {W w : World} {g n c : Nat} {l : List Fi} (h : Fw W g n c l w) : n = l.length := by
 obtain ⟨a, c', hf⟩ := h.form
 simp only [Value.slice.injEq] at hf
 exact hf.2.1
set_option maxHeartbeats 4000000 in
set_option maxRecDepth 100000 in
theorem swapR_any {W : World} {g n c a b k : Nat} {X A Y B Z : List Fi} (w : World) (h : Fw W g n c (X ++ (A ++ (Y ++ (B ++ Z)))) w) (ha : a = X.length) (hb : b = X.length + A.length + Y.length) (hA : A.length = k) (hB : B.length = k) (hn : n ≤ 100000) :
  Calls Tryz.prog 144 #[.slice (some ⟨g, 0, none⟩) n c, .int .i64 a, .int .i64 b, .int .i64 k, .func (.func 17) #[] #[]] w fun e w' => e = .returned (.tuple #[]) ∧ Fw W g n c (X ++ (B ++ (Y ++ (A ++ Z)))) w' := by
 have hlen := h.len
 simp only [List.length_append] at hlen
 have hak : a + k ≤ n := by omega
 have hbk : b + k ≤ n := by omega
 have H0 := hide h
 have HP := hide (And.intro ha (And.intro hb (And.intro hA hB)))
 clear h ha hb hA hB hlen
 have aE := isAggF5
 have zE := sizeOfF5
 have mixed := mixedO
 have hnI : (n : Int) ≤ 100000 := by omega
 have hakI : (a : Int) + k ≤ n := by omega
 have hbkI : (b : Int) + k ≤ n := by omega
 go_enter Tryz.func144, Tryz.ntmps144
 go_wp2_with fail
 go_loopw [10] (fun v10 wx => ∃ i : Nat, v10 = .int .i64 i ∧ i ≤ k ∧ Hid (∃ m, Swr X A Y B Z i m ∧ Fw W g n c m wx)) (fun v10 _ => k - (intOf v10).toNat)
 case atStart => exact ⟨0, rfl, Nat.zero_le _, _, Swr.start, H0.out⟩
 case round =>
  clear H0
  obtain ⟨i, rfl, hi, HJ⟩ := hrel
  by_cases hlt : i < k
  ·have hltI : (i : Int) < k := by omega
   obtain ⟨m, hm, ho⟩ := HJ.out
   obtain ⟨p, hp⟩ : ∃ p, p = a + i := ⟨_, rfl⟩
   obtain ⟨q, hq⟩ : ∃ q, q = b + i := ⟨_, rfl⟩
   obtain ⟨x, y, hx, hy, hs⟩ := hm.step (p := p) (q := q) (by rw [HP.out.2.2.1]; exact hlt) (by rw [HP.out.2.2.2]; exact hlt) (by rw [hp, HP.out.1]) (by rw [hq, HP.out.2.1])
   obtain ⟨l1, l2, s1, s2, ho2⟩ := OwnR.swapEl Fi.cs_length ho hx hy fi_one Tryz.prog
   have HN := hide (And.intro hs ho2)
   have n1 : x.cs.length = 5 := Fi.cs_length x
   have n2 : y.cs.length = 5 := Fi.cs_length y
   have e0 : ((a : Int) + i).toNat = p := by omega
   have p0 : (0 : Int) ≤ (a : Int) + i := by omega
   have p1 : (a : Int) + i < n := by omega
   have f0 : ((b : Int) + i).toNat = q := by omega
   have q0 : (0 : Int) ≤ (b : Int) + i := by omega
   have q1 : (b : Int) + i < n := by omega
   have HPQ := hide (And.intro hp hq)
   clear hs ho2 hm ho hx hy HJ hp hq
   obtain ⟨cX, hcX⟩ : ∃ c, c = x.cs := ⟨_, rfl⟩
   obtain ⟨cY, hcY⟩ : ∃ c, c = y.cs := ⟨_, rfl⟩
   rw [← hcX] at l1 s2 n1
   rw [← hcY] at l2 s1 s2 n2
   have CC := hide (And.intro hcX hcY)
   clear hcX hcY
   obtain ⟨z, hz⟩ : ∃ z, z = 5 := ⟨_, rfl⟩
   rw [← hz] at l1 l2 s1 s2 zE n1 n2
   have HZ := hide hz
   clear hz
   go_wp2_with fail
   go_big_region_o
   all_goals go_wp2
   go_roundw
   case rel =>
    refine ⟨i + 1, by simp, by omega, _, HN.out.1, ?_⟩
    rw [CC.out.1, CC.out.2, HZ.out]
    exact HN.out.2
   case measure => simp [intOf]; omega
  ·obtain rfl : i = k := by omega
   have hltI : ¬ (i : Int) < i := by omega
   go_wp2_with fail
   go_end0
   obtain ⟨m, hm, ho⟩ := HJ.out
   rw [hm.done (Nat.le_of_eq HP.out.2.2.1) (Nat.le_of_eq HP.out.2.2.2)] at ho
   exact ⟨rfl, ho⟩
end Go.Proofs.YtnbhchdaobimmaaGreatDoor
/- Contract: slices' insertion sort of a part of files, whatever their order. -/
namespace Go.Proofs.YtnbhchdaobimmaaGreatDoor
open Go.RowKit Go.Img Go.Pln Go.Shelf Go.Rws Go.Stb
attribute [local go_sem] Oper.semAt_some
theorem Fw.at {W w : World} {g n c i : Nat} {l : List Fi} {x : Fi} (h : Fw W g n c l w) (hx : l[i]? = some x) : w.rangeAt g (i * 5) x.cs ∧ g < w.heap.size := by
 refine ⟨fun j u hu => (h.cellAt Fi.cs_length hx hu).1, ?_⟩
 exact (h.cellAt (j := 0) Fi.cs_length hx rfl).2.2.2
set_option maxHeartbeats 8000000 in
set_option maxRecDepth 100000 in
theorem insG_any {W : World} {g n c a b : Nat} {X D Z : List Fi} (w : World) (h : Fw W g n c (X ++ D ++ Z) w) (ha : a = X.length) (hb : b = X.length + D.length) (hp : ∀ f ∈ X ++ D ++ Z, f.path.length ≤ 1000) (hn : n ≤ 100000) :
  Calls Tryz.prog 89 #[.slice (some ⟨g, 0, none⟩) n c, .int .i64 a, .int .i64 b, .func (.func 17) #[] #[]] w fun e w' => e = .returned (.tuple #[]) ∧ ∃ M, M.Perm D ∧ Sd ltF M ∧ Fw W g n c (X ++ M ++ Z) w' := by
 have hlen := h.len
 simp only [List.length_append] at hlen
 have hbn : b ≤ n := by omega
 have hab : a ≤ b := by omega
 have H0 : Hid (∃ m, Ins ltF X D Z (a + 1) m ∧ Fw W g n c m w) := ⟨_, by rw [ha]; exact Ins.start, h⟩
 have HP := hide (And.intro ha (And.intro hb hp))
 have HC := hide (fun (x : Fi) (hx : x.path.length ≤ 1000) (y : Fi) (hy : y.path.length ≤ 1000) (v : World) => fcmp_below x y hx hy v)
 have aE := isAggF5
 have zE := sizeOfF5
 have mixed := mixedO
 have hnI : (n : Int) ≤ 100000 := by omega
 have hbI : (b : Int) ≤ n := by omega
 have habI : (a : Int) ≤ b := by omega
 clear h ha hb hp hlen
 go_enter Tryz.func89, Tryz.ntmps89
 go_wp2_with fail
 go_loopw [8] (fun v8 wx => ∃ i : Nat, v8 = .int .i64 i ∧ a + 1 ≤ i ∧ i ≤ n + 1 ∧ Hid (∃ m, Ins ltF X D Z i m ∧ Fw W g n c m wx)) (fun v8 _ => n + 1 - (intOf v8).toNat)
 case atStart => exact ⟨a + 1, by simp, Nat.le_refl _, by omega, H0.out⟩
 case round =>
  clear H0
  obtain ⟨i, rfl, hi1, hi2, HI⟩ := hrel
  by_cases hlt : i < b
  ·have hltI : (i : Int) < b := by omega
   have HJ0 : Hid (∃ m, InsJ ltF X D Z i i m ∧ Fw W g n c m wr) := by
    obtain ⟨m, hm, ho⟩ := HI.out
    exact ⟨m, hm.enter (by rw [← HP.out.2.1]; exact hlt) (by rw [← HP.out.1]; omega), ho⟩
   clear HI
   go_wp2_with fail
   go_loopw [9] (fun v9 wx => ∃ j : Nat, v9 = .int .i64 j ∧ a ≤ j ∧ j ≤ i ∧ Hid (∃ m, InsJ ltF X D Z i j m ∧ Fw W g n c m wx)) (fun v9 _ => (intOf v9).toNat)
   case atStart => exact ⟨i, rfl, by omega, Nat.le_refl _, HJ0.out⟩
   case round =>
    clear HJ0
    obtain ⟨j, rfl, hj1, hj2, HJ⟩ := hrel
    by_cases hja : a < j
    ·obtain ⟨m, hm, ho⟩ := HJ.out
     have hml := ho.len
     obtain ⟨q, hq⟩ : ∃ q, q = j - 1 := ⟨_, rfl⟩
     obtain ⟨y, hy⟩ : ∃ y, m[j]? = some y := ⟨_, List.getElem?_eq_getElem (by omega)⟩
     obtain ⟨x, hx⟩ : ∃ x, m[q]? = some x := ⟨_, List.getElem?_eq_getElem (by omega)⟩
     have HXx := hide (HP.out.2.2 x (hm.perm.mem_iff.1 (List.mem_of_getElem? hx)))
     have HXy := hide (HP.out.2.2 y (hm.perm.mem_iff.1 (List.mem_of_getElem? hy)))
     have hjaI : (a : Int) < j := by omega
     have h0 : (0 : Int) ≤ j := by omega
     have hjN : (j : Int) < n := by omega
     have hq0 : (0 : Int) ≤ (j : Int) - 1 := by omega
     have hqN : (j : Int) - 1 < n := by omega
     have hqt : ((j : Int) - 1).toNat = q := by omega
     have HM := hide (And.intro hm ho)
     have HXY := hide (And.intro hx (And.intro hy hq))
     clear hm ho hx hy hq HJ hml
     obtain ⟨d, hd⟩ : ∃ d, d = cmpF y x := ⟨_, rfl⟩
     have HD := hide hd
     by_cases hdn : d < 0
     ·go_upto_region 4 with fail
      refine QuietCalls.region (by kernel_rfl) (by kernel_rfl) ?_
      iterate 8 (first | go_big_quiet_step (fail) | quiet_step (fail))
      refine QuietCalls.loadMid rfl 51 _ rfl g (j * 5) rfl y.cs _ (fun v k => rangeAt_below (HM.out.2.at HXY.out.2.1).1 (HM.out.2.at HXY.out.2.1).2 k) Tryz.underlying51 rfl infoFi5 ?_; simp only [Act.put, List.setIfInBounds_toArray, List.set_cons_succ, List.set_cons_zero]
      iterate 4 (first | go_big_quiet_step (fail) | quiet_step (fail))
      refine QuietCalls.loadMid rfl 51 _ rfl g (q * 5) rfl x.cs _ (fun v k => rangeAt_below (HM.out.2.at HXY.out.1).1 (HM.out.2.at HXY.out.1).2 k) Tryz.underlying51 rfl infoFi5 ?_; simp only [Act.put, List.setIfInBounds_toArray, List.set_cons_succ, List.set_cons_zero]
      refine QuietCalls.call rfl 17 #[.agg y.cs.toArray, .agg x.cs.toArray] (.int .i64 d) (fun v _ => by rw [HD.out]; exact HC.out y HXy.out x HXx.out v) (fun v => by go_simp) ?_; simp only [Act.put, List.setIfInBounds_toArray, List.set_cons_succ, List.set_cons_zero]
      iterate 2 (first | go_big_quiet_step (fail) | quiet_step (fail))
      refine wpQuiet_nil ?_
      intro w2 k2
      have hl9 : ltF y x = true := by unfold ltF; rw [← HD.out]; exact decide_eq_true hdn
      obtain ⟨l1, l2, s1, s2, ho2⟩ := OwnR.swapEl Fi.cs_length (HM.out.2.step k2) HXY.out.2.1 HXY.out.1 fi_one Tryz.prog
      have hmv := HM.out.1.move (by rw [← HP.out.1]; exact hja) (by rw [← HXY.out.2.2]; exact HXY.out.1) HXY.out.2.1 hl9
      rw [← HXY.out.2.2] at hmv
      have HN := hide (And.intro hmv ho2)
      have n1 : y.cs.length = 5 := Fi.cs_length y
      have n2 : x.cs.length = 5 := Fi.cs_length x
      clear hmv ho2 k2 hl9
      obtain ⟨cY, hcY⟩ : ∃ c, c = y.cs := ⟨_, rfl⟩
      obtain ⟨cX, hcX⟩ : ∃ c, c = x.cs := ⟨_, rfl⟩
      rw [← hcY] at l1 s2 n1
      rw [← hcX] at l2 s1 s2 n2
      have CC := hide (And.intro hcY hcX)
      clear hcX hcY HM
      obtain ⟨z, hz⟩ : ∃ z, z = 5 := ⟨_, rfl⟩
      rw [← hz] at l1 l2 s1 s2 zE n1 n2
      have HZ := hide hz
      clear hz
      go_wp2_with fail
      go_big_region_o
      all_goals go_wp2
      go_roundw
      case rel =>
       refine ⟨q, by congr 1; omega, by omega, by omega, _, HN.out.1, ?_⟩
       rw [CC.out.1, CC.out.2, HZ.out]
       exact HN.out.2
      case measure => simp only [intOf]; omega
     ·go_upto_region 4 with fail
      refine QuietCalls.region (by kernel_rfl) (by kernel_rfl) ?_
      iterate 8 (first | go_big_quiet_step (fail) | quiet_step (fail))
      refine QuietCalls.loadMid rfl 51 _ rfl g (j * 5) rfl y.cs _ (fun v k => rangeAt_below (HM.out.2.at HXY.out.2.1).1 (HM.out.2.at HXY.out.2.1).2 k) Tryz.underlying51 rfl infoFi5 ?_; simp only [Act.put, List.setIfInBounds_toArray, List.set_cons_succ, List.set_cons_zero]
      iterate 4 (first | go_big_quiet_step (fail) | quiet_step (fail))
      refine QuietCalls.loadMid rfl 51 _ rfl g (q * 5) rfl x.cs _ (fun v k => rangeAt_below (HM.out.2.at HXY.out.1).1 (HM.out.2.at HXY.out.1).2 k) Tryz.underlying51 rfl infoFi5 ?_; simp only [Act.put, List.setIfInBounds_toArray, List.set_cons_succ, List.set_cons_zero]
      refine QuietCalls.call rfl 17 #[.agg y.cs.toArray, .agg x.cs.toArray] (.int .i64 d) (fun v _ => by rw [HD.out]; exact HC.out y HXy.out x HXx.out v) (fun v => by go_simp) ?_; simp only [Act.put, List.setIfInBounds_toArray, List.set_cons_succ, List.set_cons_zero]
      iterate 2 (first | go_big_quiet_step (fail) | quiet_step (fail))
      refine wpQuiet_nil ?_
      intro w2 k2
      have hl9 : ltF y x = false := by unfold ltF; rw [← HD.out]; exact decide_eq_false hdn
      have HI2 : Hid (∃ m, Ins ltF X D Z (i + 1) m ∧ Fw W g n c m w2) := ⟨m, HM.out.1.leave swoF (.inr ⟨x, y, by rw [← HXY.out.2.2]; exact HXY.out.1, HXY.out.2.1, hl9⟩), HM.out.2.step k2⟩
      clear k2 hl9 HM
      go_wp2_with fail
      go_roundw
      case rel => exact ⟨i + 1, by simp, by omega, by omega, HI2.out⟩
      case measure => simp [intOf]; omega
    ·have hjaI : ¬ (a : Int) < j := by omega
     have hjaB : decide ((j : Int) > (a : Int)) = false := decide_eq_false (by omega)
     obtain ⟨m, hm, ho⟩ := HJ.out
     have HM := hide (And.intro (hm.leave swoF (.inl (by rw [← HP.out.1]; omega))) ho)
     clear hm ho HJ
     go_upto_region 4 with fail
     refine QuietCalls.region (by kernel_rfl) (by kernel_rfl) ?_
     iterate 17 (first | go_big_quiet_step (fail) | quiet_step (fail))
     refine wpQuiet_nil ?_
     intro w2 k2
     have HI2 : Hid (∃ m, Ins ltF X D Z (i + 1) m ∧ Fw W g n c m w2) := ⟨m, HM.out.1, HM.out.2.step k2⟩
     clear k2 HM
     go_wp2_with fail
     go_roundw
     case rel => exact ⟨i + 1, by simp, by omega, by omega, HI2.out⟩
     case measure => simp [intOf]; omega
  ·have hltI : ¬ (i : Int) < b := by omega
   go_wp2_with fail
   go_end0
   obtain ⟨m, hm, ho⟩ := HI.out
   obtain ⟨M, e, hs, hpM⟩ := hm.done (by rw [← HP.out.2.1]; omega)
   rw [e] at ho
   exact ⟨rfl, M, hpM, hs, by simpa only [List.append_assoc] using ho⟩
end Go.Proofs.YtnbhchdaobimmaaGreatDoor
/- Contract: slices' rotate of files: two parts beside one another change their places. -/
namespace Go.Proofs.YtnbhchdaobimmaaGreatDoor
open Go.RowKit Go.Img Go.Pln Go.Shelf Go.Rws Go.Stb
attribute [local go_sem] Oper.semAt_some
set_option maxHeartbeats 4000000 in
set_option maxRecDepth 100000 in
theorem rotate_any {W : World} {g n c a m b : Nat} {X U V Z : List Fi} (w : World) (h : Fw W g n c (X ++ (U ++ (V ++ Z))) w) (ha : a = X.length) (hm : m = X.length + U.length) (hb : b = X.length + U.length + V.length) (hU : 1 ≤ U.length) (hV : 1 ≤ V.length) (hn : n ≤ 100000) :
  Calls Tryz.prog 126 #[.slice (some ⟨g, 0, none⟩) n c, .int .i64 a, .int .i64 m, .int .i64 b, .func (.func 17) #[] #[]] w fun e w' => e = .returned (.tuple #[]) ∧ Fw W g n c (X ++ (V ++ (U ++ Z))) w' := by
 have hlen := h.len
 simp only [List.length_append] at hlen
 have ham : a + U.length = m := by omega
 have hmb : m + V.length = b := by omega
 have hbn : b ≤ n := by omega
 obtain ⟨tg, htg⟩ : ∃ tg, tg = X ++ (V ++ (U ++ Z)) := ⟨_, rfl⟩
 have H0 : Hid (∃ l, Rot tg m U.length V.length l ∧ Fw W g n c l w) := ⟨_, by rw [htg]; exact Rot.start hm, h⟩
 rw [← htg]
 clear h ha hm hb hlen htg
 obtain ⟨u, hu⟩ : ∃ u, u = U.length := ⟨_, rfl⟩
 obtain ⟨v, hv⟩ : ∃ v, v = V.length := ⟨_, rfl⟩
 rw [← hu] at H0 hU ham
 rw [← hv] at H0 hV hmb
 clear hu hv
 have hSW := hide (fun (a b k : Nat) (X A Y B Z : List Fi) (w : World) (h : Fw W g n c (X ++ (A ++ (Y ++ (B ++ Z)))) w) (ha : a = X.length) (hb : b = X.length + A.length + Y.length) (hA : A.length = k) (hB : B.length = k) => swapR_any w h ha hb hA hB hn)
 have hnI : (n : Int) ≤ 100000 := by omega
 have e1 : (m : Int) - a = u := by omega
 have e2 : (b : Int) - m = v := by omega
 have hmn : (m : Int) ≤ 100000 := by omega
 go_enter Tryz.func126, Tryz.ntmps126
 go_upto_region 1 with fail
 try simp only [e1]
 go_upto_region 2 with fail
 try simp only [e2]
 clear e1 e2
 go_loopw [10, 11] (fun v10 v11 wx => ∃ i j : Nat, v10 = .int .i64 i ∧ v11 = .int .i64 j ∧ 1 ≤ i ∧ 1 ≤ j ∧ i ≤ m ∧ m + j ≤ n ∧ Hid (∃ l, Rot tg m i j l ∧ Fw W g n c l wx)) (fun v10 v11 _ => (intOf v10).toNat + (intOf v11).toNat)
 case atStart => exact ⟨u, v, rfl, rfl, hU, hV, by omega, by omega, H0.out⟩
 case round =>
  clear H0
  obtain ⟨i, j, rfl, rfl, hi, hj, him, hjn, HJ⟩ := hrel
  have hiI : (i : Int) ≤ m := by omega
  have hjI : (m : Int) + j ≤ n := by omega
  obtain ⟨l, hl, ho⟩ := HJ.out
  rcases Nat.lt_trichotomy i j with hij | hij | hij
  ·have hne : ¬ (i : Int) = j := by omega
   have hneB : ((i : Int) != j) = true := by simpa using hne
   have hgt : ¬ (j : Int) < i := by omega
   obtain ⟨X1, A, Y, B, Z1, e, hA, hB, hX, hY, hr⟩ := hl.right hij
   rw [e] at ho
   have HC := hide (hSW.out _ _ _ _ _ _ _ _ wr ho rfl rfl hA hB)
   have x1 : ((X1.length : Nat) : Int) = (m : Int) - i := by omega
   have x2 : ((X1.length + A.length + Y.length : Nat) : Int) = (m : Int) + j - i := by omega
   rw [x1, x2] at HC
   have HR := hide hr
   clear x1 x2 hl ho e hr hA hB hX hY HJ
   go_wp2_with (go_at_call 144; refine HC.out.mono ?_; rintro r w5 ⟨rfl, k5⟩; have K5 := hide k5; clear k5 HC)
   go_roundw
   case rel => exact ⟨i, j - i, rfl, by congr 1; omega, hi, by omega, him, by omega, _, HR.out, K5.out⟩
   case measure => simp only [intOf]; omega
  ·subst hij
   obtain ⟨X1, A, B, Z1, e, hA, hB, hX, htg⟩ := hl.last
   rw [e] at ho
   have HC := hide (hSW.out _ _ _ _ _ _ _ _ wr ho rfl rfl hA hB)
   have x1 : ((X1.length : Nat) : Int) = (m : Int) - i := by omega
   have x2 : ((X1.length + A.length + ([] : List Fi).length : Nat) : Int) = m := by simp only [List.length_nil]; omega
   rw [x1, x2, htg] at HC
   have hneB : ((i : Int) != i) = false := by simp
   clear x1 x2 hl ho e hA hB hX htg HJ
   go_wp2_with (go_at_call 144; refine HC.out.mono ?_; rintro r w5 ⟨rfl, k5⟩; have K5 := hide k5; clear k5 HC)
   go_end0
   exact ⟨rfl, K5.out⟩
  ·have hne : ¬ (i : Int) = j := by omega
   have hneB : ((i : Int) != j) = true := by simpa using hne
   have hgt : (j : Int) < i := by omega
   obtain ⟨X1, A, Y, B, Z1, e, hA, hB, hX, hY, hr⟩ := hl.left hij
   rw [e] at ho
   have HC := hide (hSW.out _ _ _ _ _ _ _ _ wr ho rfl rfl hA hB)
   have x1 : ((X1.length : Nat) : Int) = (m : Int) - i := by omega
   have x2 : ((X1.length + A.length + Y.length : Nat) : Int) = m := by omega
   rw [x1, x2] at HC
   have HR := hide hr
   clear x1 x2 hl ho e hr hA hB hX hY HJ
   go_wp2_with (go_at_call 144; refine HC.out.mono ?_; rintro r w5 ⟨rfl, k5⟩; have K5 := hide k5; clear k5 HC)
   go_roundw
   case rel => exact ⟨i - j, j, by congr 1; omega, rfl, by omega, hj, by omega, hjn, _, HR.out, K5.out⟩
   case measure => simp only [intOf]; omega
end Go.Proofs.YtnbhchdaobimmaaGreatDoor
/- Contract: slices' symMerge of files: two runs in order, beside one another, are put together in order. Laid by tools/mkmerge.py. -/
namespace Go.Stb
open Go.Sort
theorem len_cut {α : Type} {L A B : List α} (h : L = A ++ B) : A.length + B.length = L.length := by rw [h, List.length_append]
theorem same_cut {α : Type} {A B A' B' : List α} (h : A ++ B = A' ++ B') (hl : A.length = A'.length) : A = A' ∧ B = B' := List.append_inj h hl
end Go.Stb
namespace Go.Proofs.YtnbhchdaobimmaaGreatDoor
open Go.RowKit Go.Img Go.Pln Go.Shelf Go.Rws Go.Stb
attribute [local go_sem] Oper.semAt_some
/-- What symMerge does of two runs. -/
abbrev Symm (W : World) (g n c : Nat) (X L R Z : List Fi) (a m b : Nat) (w : World) : Prop :=
  Calls Tryz.prog 105 #[.slice (some ⟨g, 0, none⟩) n c, .int .i64 a, .int .i64 m, .int .i64 b, .func (.func 17) #[] #[]] w fun e w' => e = .returned (.tuple #[]) ∧ ∃ M, M.Perm (L ++ R) ∧ Sd ltF M ∧ Fw W g n c (X ++ (M ++ Z)) w'
set_option maxHeartbeats 16000000 in
set_option maxRecDepth 100000 in
theorem symmA {W : World} {g n c : Nat} (hn : n ≤ 100000) (k : Nat) (X L R Z : List Fi) (a m b : Nat) (w : World) (hw : Fw W g n c (X ++ (L ++ (R ++ Z))) w) (hp : ∀ f, f ∈ X ∨ f ∈ L ∨ f ∈ R ∨ f ∈ Z → f.path.length ≤ 1000) (ha : a = X.length) (hm : m = a + L.length) (hb : b = m + R.length) (hL1 : 1 ≤ L.length) (hR1 : 1 ≤ R.length) (hsL : Sd ltF L) (hsR : Sd ltF R) (_hbk : b ≤ a + (k + 1)) (hma : m - a = 1) :
  Symm W g n c X L R Z a m b w := by
 unfold Symm
 have hlen := hw.len
 simp only [List.length_append] at hlen
 have ham : a < m := by omega
 have hmb : m < b := by omega
 have hbn : b ≤ n := by omega
 obtain ⟨l, hl⟩ : ∃ l, l = X ++ (L ++ (R ++ Z)) := ⟨_, rfl⟩
 have HN : Hid (n = l.length) := by show _ = _; rw [hl]; exact hw.len
 rw [← hl] at hw
 have HPl : Hid (∀ f ∈ l, f.path.length ≤ 1000) := by
  intro f hf
  rw [hl] at hf
  simp only [List.mem_append] at hf
  exact hp f hf
 have HPp := hide hp
 have HE := hide (And.intro hl (And.intro ha (And.intro hm hb)))
 have HS := hide (And.intro hsL hsR)
 have HC := hide (fun (x : Fi) (hx : x.path.length ≤ 1000) (y : Fi) (hy : y.path.length ≤ 1000) (v : World) => fcmp_below x y hx hy v)
 have H0 := hide hw
 have hget : Hid (∀ i, i < n → ∃ x, l[i]? = some x) := fun i hi => ⟨_, List.getElem?_eq_getElem (by rw [← HN.out]; exact hi)⟩
 clear hw hp ha hm hb hsL hsR hl hlen
 have aE := isAggF5
 have zE := sizeOfF5
 have mixed := mixedO
 have hnI : (n : Int) ≤ 100000 := by omega
 have ha0 : (0 : Int) ≤ a := by omega
 have haN : (a : Int) < n := by omega
 have hm0 : (0 : Int) ≤ m := by omega
 have hmN : (m : Int) < n := by omega
 have hbN : (b : Int) ≤ n := by omega
 go_enter Tryz.func105, Tryz.ntmps105
 have hmaI : (m : Int) - a = 1 := by omega
 go_wp2_with fail
 obtain ⟨x, hx⟩ := hget.out a (by omega)
 have HXx := hide (HPl.out x (List.mem_of_getElem? hx))
 have HX := hide hx
 clear hx
 go_loopw [10, 11] (fun v10 v11 wx => ∃ i j : Nat, v10 = .int .i64 i ∧ v11 = .int .i64 j ∧ m ≤ i ∧ i ≤ j ∧ j ≤ b ∧ Hid ((i = m ∨ ∃ z, l[i - 1]? = some z ∧ ltF z x = true) ∧ (j = b ∨ ∃ z, l[j]? = some z ∧ ltF z x = false) ∧ Fw W g n c l wx)) (fun v10 v11 _ => (intOf v11).toNat - (intOf v10).toNat)
 case atStart => exact ⟨m, b, rfl, rfl, Nat.le_refl _, by omega, Nat.le_refl _, .inl rfl, .inl rfl, H0.out⟩
 case round =>
  clear H0
  obtain ⟨i, j, rfl, rfl, hi1, hi2, hi3, HI⟩ := hrel
  by_cases hlt : i < j
  ·have hltI : (i : Int) < j := by omega
   have hc0 : (0 : Int) ≤ ((i : Int) + j) / 2 := by omega
   have hc1 : ((i : Int) + j) / 2 < n := by omega
   have hjI : (j : Int) ≤ 100000 := by omega
   obtain ⟨z, hz⟩ := hget.out ((i + j) / 2) (by omega)
   have HXz := hide (HPl.out z (List.mem_of_getElem? hz))
   have HZ := hide hz
   clear hz
   obtain ⟨d9, hd9⟩ : ∃ d, d = cmpF z x := ⟨_, rfl⟩
   have HD9 := hide hd9
   clear hd9
   by_cases hdn : d9 < 0
   ·go_upto_region 5 with fail
    refine QuietCalls.region (by kernel_rfl) (by kernel_rfl) ?_
    iterate 4 (first | go_big_quiet_step (fail) | quiet_step (fail))
    refine QuietCalls.loadMid rfl 51 _ rfl g (((i + j) / 2) * 5) rfl z.cs _ (fun v k => rangeAt_below (HI.out.2.2.at HZ.out).1 (HI.out.2.2.at HZ.out).2 k) Tryz.underlying51 rfl infoFi5 ?_; simp only [Act.put, List.setIfInBounds_toArray, List.set_cons_succ, List.set_cons_zero]
    iterate 3 (first | go_big_quiet_step (fail) | quiet_step (fail))
    refine QuietCalls.loadMid rfl 51 _ rfl g (a * 5) rfl x.cs _ (fun v k => rangeAt_below (HI.out.2.2.at HX.out).1 (HI.out.2.2.at HX.out).2 k) Tryz.underlying51 rfl infoFi5 ?_; simp only [Act.put, List.setIfInBounds_toArray, List.set_cons_succ, List.set_cons_zero]
    refine QuietCalls.call rfl 17 #[.agg z.cs.toArray, .agg x.cs.toArray] (.int .i64 d9) (fun v _ => by rw [HD9.out]; exact HC.out z HXz.out x HXx.out v) (fun v => by go_simp) ?_; simp only [Act.put, List.setIfInBounds_toArray, List.set_cons_succ, List.set_cons_zero]
    iterate 1 (first | go_big_quiet_step (fail) | quiet_step (fail))
    refine wpQuiet_nil ?_
    intro w2 k2
    have HI2 : Hid (((i + j) / 2 + 1 = m ∨ ∃ z, l[(i + j) / 2 + 1 - 1]? = some z ∧ ltF z x = true) ∧ (j = b ∨ ∃ z, l[j]? = some z ∧ ltF z x = false) ∧ Fw W g n c l w2) := ⟨.inr ⟨z, HZ.out, by unfold ltF; rw [← HD9.out]; exact decide_eq_true hdn⟩, HI.out.2.1, HI.out.2.2.step k2⟩
    clear k2 HI
    go_wp2_with fail
    go_roundw
    case rel => exact ⟨(i + j) / 2 + 1, j, by congr 1 <;> omega, rfl, by omega, by omega, hi3, HI2.out⟩
    case measure => simp only [intOf]; omega
   ·go_upto_region 5 with fail
    refine QuietCalls.region (by kernel_rfl) (by kernel_rfl) ?_
    iterate 4 (first | go_big_quiet_step (fail) | quiet_step (fail))
    refine QuietCalls.loadMid rfl 51 _ rfl g (((i + j) / 2) * 5) rfl z.cs _ (fun v k => rangeAt_below (HI.out.2.2.at HZ.out).1 (HI.out.2.2.at HZ.out).2 k) Tryz.underlying51 rfl infoFi5 ?_; simp only [Act.put, List.setIfInBounds_toArray, List.set_cons_succ, List.set_cons_zero]
    iterate 3 (first | go_big_quiet_step (fail) | quiet_step (fail))
    refine QuietCalls.loadMid rfl 51 _ rfl g (a * 5) rfl x.cs _ (fun v k => rangeAt_below (HI.out.2.2.at HX.out).1 (HI.out.2.2.at HX.out).2 k) Tryz.underlying51 rfl infoFi5 ?_; simp only [Act.put, List.setIfInBounds_toArray, List.set_cons_succ, List.set_cons_zero]
    refine QuietCalls.call rfl 17 #[.agg z.cs.toArray, .agg x.cs.toArray] (.int .i64 d9) (fun v _ => by rw [HD9.out]; exact HC.out z HXz.out x HXx.out v) (fun v => by go_simp) ?_; simp only [Act.put, List.setIfInBounds_toArray, List.set_cons_succ, List.set_cons_zero]
    iterate 1 (first | go_big_quiet_step (fail) | quiet_step (fail))
    refine wpQuiet_nil ?_
    intro w2 k2
    have HI2 : Hid ((i = m ∨ ∃ z, l[i - 1]? = some z ∧ ltF z x = true) ∧ ((i + j) / 2 = b ∨ ∃ z, l[(i + j) / 2]? = some z ∧ ltF z x = false) ∧ Fw W g n c l w2) := ⟨HI.out.1, .inr ⟨z, HZ.out, by unfold ltF; rw [← HD9.out]; exact decide_eq_false hdn⟩, HI.out.2.2.step k2⟩
    clear k2 HI
    go_wp2_with fail
    go_roundw
    case rel => exact ⟨i, (i + j) / 2, rfl, by congr 1 <;> omega, hi1, by omega, by omega, HI2.out⟩
    case measure => simp only [intOf]; omega
  ·obtain rfl : i = j := by omega
   have hltI : ¬ (i : Int) < i := by omega
   -- where it goes
   obtain ⟨x1, hL⟩ : ∃ x1, L = [x1] := by
    have : L.length = 1 := by have := HE.out.2.2.1; omega
    exact List.length_eq_one_iff.1 this
   have hlx : l = X ++ x1 :: (R ++ Z) := by rw [HE.out.1, hL]; rfl
   have hx1 : x1 = x := by
    have h1 := HX.out
    rw [hlx, Stb.get_at HE.out.2.1] at h1
    exact Option.some.inj h1
   subst hx1
   have hRl : R.length = b - m := by have := HE.out.2.2.2; omega
   obtain ⟨P, Q, hRP, hPl⟩ := cut_at (l := R) (n := i - m) (by omega)
   have hPQ := len_cut hRP
   have hXl := HE.out.2.1
   have hsd : Sd ltF (P ++ x1 :: Q) := baseA swoF (l := l) (X := X) (Z := Z) (i := i) (by rw [hlx, hRP]) (by rw [← hRP]; exact HS.out.2) (by omega)
    (HI.out.1.imp (fun h => by omega) fun h => h) (HI.out.2.1.imp (fun h => by rw [List.length_append]; omega) fun h => h)
   have HQ := hide (And.intro hsd (And.intro hRP (And.intro hPl hL)))
   have HM0 : Hid (∃ l2, Mvr X (R ++ Z) x1 a l2 ∧ Fw W g n c l2 wr) := ⟨l, by rw [hlx]; exact Mvr.start hXl, HI.out.2.2⟩
   have hRZ : X.length + (R ++ Z).length + 1 = n := by rw [HN.out, hlx]; simp only [List.length_append, List.length_cons]; omega
   have HZN := hide (And.intro hXl hRZ)
   clear hsd hRP hPl hL hPQ HI hlx hRl hXl hRZ
   go_wp2_with fail
   go_loopw [13] (fun v13 wx => ∃ t : Nat, v13 = .int .i64 t ∧ a ≤ t ∧ t + 1 ≤ i ∧ Hid (∃ l2, Mvr X (R ++ Z) x1 t l2 ∧ Fw W g n c l2 wx)) (fun v13 _ => i - (intOf v13).toNat)
   case atStart => exact ⟨a, rfl, Nat.le_refl _, by omega, HM0.out⟩
   case round =>
    clear HM0
    obtain ⟨t, rfl, ht1, ht2, HT⟩ := hrel
    by_cases htl : t + 1 < i
    ·have htlI : (t : Int) < (i : Int) - 1 := by omega
     obtain ⟨l2, hm2, ho⟩ := HT.out
     obtain ⟨y, hx2, hy2, hmv⟩ := hm2.step (by have := HZN.out.1; have := HZN.out.2; omega)
     obtain ⟨q, hq⟩ : ∃ q, q = t + 1 := ⟨_, rfl⟩
     rw [← hq] at hy2 hmv
     obtain ⟨l1, l2', s1, s2, ho2⟩ := OwnR.swapEl Fi.cs_length ho hx2 hy2 fi_one Tryz.prog
     have HW2 := hide (And.intro hmv ho2)
     have n1 : x1.cs.length = 5 := Fi.cs_length x1
     have n2 : y.cs.length = 5 := Fi.cs_length y
     have t0 : (0 : Int) ≤ t := by omega
     have t1 : (t : Int) < n := by omega
     have q0 : (0 : Int) ≤ (t : Int) + 1 := by omega
     have q1 : (t : Int) + 1 < n := by omega
     have qt : ((t : Int) + 1).toNat = q := by omega
     have HQ2 := hide hq
     clear hmv ho2 hm2 ho hx2 hy2 HT hq
     obtain ⟨cX, hcX⟩ : ∃ c, c = x1.cs := ⟨_, rfl⟩
     obtain ⟨cY, hcY⟩ : ∃ c, c = y.cs := ⟨_, rfl⟩
     rw [← hcX] at l1 s2 n1
     rw [← hcY] at l2' s1 s2 n2
     have CC := hide (And.intro hcX hcY)
     clear hcX hcY
     obtain ⟨z9, hz9⟩ : ∃ z, z = 5 := ⟨_, rfl⟩
     rw [← hz9] at l1 l2' s1 s2 zE n1 n2
     have HZ9 := hide hz9
     clear hz9
     go_wp2_with fail
     go_big_region_o
     all_goals go_wp2
     go_roundw
     case rel =>
      refine ⟨t + 1, by simp, by omega, by omega, _, by rw [← HQ2.out]; exact HW2.out.1, ?_⟩
      rw [CC.out.1, CC.out.2, HZ9.out]
      exact HW2.out.2
     case measure => simp [intOf]; omega
    ·have htlI : ¬ (t : Int) < (i : Int) - 1 := by omega
     go_wp2_with fail
     refine bodyPost_ret (results_none rfl _ _ _) rfl ?_
     obtain ⟨l2, ⟨P2, Q2, e1, e2, e3⟩, ho⟩ := HT.out
     obtain ⟨h1, h2, h3, h4⟩ := HQ.out
     have hPP : P.length = P2.length := by have := HZN.out.1; omega
     rw [h2, List.append_assoc] at e1
     obtain ⟨rfl, rfl⟩ := same_cut e1 hPP
     refine ⟨rfl, P ++ x1 :: Q, ?_, h1, ?_⟩
     ·rw [h4, h2]
      exact List.perm_middle
     ·rw [e3] at ho
      rw [List.append_assoc, List.cons_append]
      exact ho
set_option maxHeartbeats 16000000 in
set_option maxRecDepth 100000 in
theorem symmB {W : World} {g n c : Nat} (hn : n ≤ 100000) (k : Nat) (X L R Z : List Fi) (a m b : Nat) (w : World) (hw : Fw W g n c (X ++ (L ++ (R ++ Z))) w) (hp : ∀ f, f ∈ X ∨ f ∈ L ∨ f ∈ R ∨ f ∈ Z → f.path.length ≤ 1000) (ha : a = X.length) (hm : m = a + L.length) (hb : b = m + R.length) (hL1 : 1 ≤ L.length) (hR1 : 1 ≤ R.length) (hsL : Sd ltF L) (hsR : Sd ltF R) (_hbk : b ≤ a + (k + 1)) (hma : ¬ m - a = 1) (hbm : b - m = 1) :
  Symm W g n c X L R Z a m b w := by
 unfold Symm
 have hlen := hw.len
 simp only [List.length_append] at hlen
 have ham : a < m := by omega
 have hmb : m < b := by omega
 have hbn : b ≤ n := by omega
 obtain ⟨l, hl⟩ : ∃ l, l = X ++ (L ++ (R ++ Z)) := ⟨_, rfl⟩
 have HN : Hid (n = l.length) := by show _ = _; rw [hl]; exact hw.len
 rw [← hl] at hw
 have HPl : Hid (∀ f ∈ l, f.path.length ≤ 1000) := by
  intro f hf
  rw [hl] at hf
  simp only [List.mem_append] at hf
  exact hp f hf
 have HPp := hide hp
 have HE := hide (And.intro hl (And.intro ha (And.intro hm hb)))
 have HS := hide (And.intro hsL hsR)
 have HC := hide (fun (x : Fi) (hx : x.path.length ≤ 1000) (y : Fi) (hy : y.path.length ≤ 1000) (v : World) => fcmp_below x y hx hy v)
 have H0 := hide hw
 have hget : Hid (∀ i, i < n → ∃ x, l[i]? = some x) := fun i hi => ⟨_, List.getElem?_eq_getElem (by rw [← HN.out]; exact hi)⟩
 clear hw hp ha hm hb hsL hsR hl hlen
 have aE := isAggF5
 have zE := sizeOfF5
 have mixed := mixedO
 have hnI : (n : Int) ≤ 100000 := by omega
 have ha0 : (0 : Int) ≤ a := by omega
 have haN : (a : Int) < n := by omega
 have hm0 : (0 : Int) ≤ m := by omega
 have hmN : (m : Int) < n := by omega
 have hbN : (b : Int) ≤ n := by omega
 go_enter Tryz.func105, Tryz.ntmps105
 have hmaI : ¬ (m : Int) - a = 1 := by omega
 have hmaB : ((m : Int) - a == 1) = false := by rw [beq_eq_false_iff_ne]; exact hmaI
 have hbmI : (b : Int) - m = 1 := by omega
 go_wp2_with fail
 obtain ⟨y, hy⟩ := hget.out m (by omega)
 have HXy := hide (HPl.out y (List.mem_of_getElem? hy))
 have HY := hide hy
 clear hy
 go_loopw [14, 15] (fun v14 v15 wx => ∃ i j : Nat, v14 = .int .i64 i ∧ v15 = .int .i64 j ∧ a ≤ i ∧ i ≤ j ∧ j ≤ m ∧ Hid ((i = a ∨ ∃ z, l[i - 1]? = some z ∧ ltF y z = false) ∧ (j = m ∨ ∃ z, l[j]? = some z ∧ ltF y z = true) ∧ Fw W g n c l wx)) (fun v14 v15 _ => (intOf v15).toNat - (intOf v14).toNat)
 case atStart => exact ⟨a, m, rfl, rfl, Nat.le_refl _, by omega, Nat.le_refl _, .inl rfl, .inl rfl, H0.out⟩
 case round =>
  clear H0
  obtain ⟨i, j, rfl, rfl, hi1, hi2, hi3, HI⟩ := hrel
  by_cases hlt : i < j
  ·have hltI : (i : Int) < j := by omega
   have hc0 : (0 : Int) ≤ ((i : Int) + j) / 2 := by omega
   have hc1 : ((i : Int) + j) / 2 < n := by omega
   have hjI : (j : Int) ≤ 100000 := by omega
   obtain ⟨z, hz⟩ := hget.out ((i + j) / 2) (by omega)
   have HXz := hide (HPl.out z (List.mem_of_getElem? hz))
   have HZ := hide hz
   clear hz
   obtain ⟨d9, hd9⟩ : ∃ d, d = cmpF y z := ⟨_, rfl⟩
   have HD9 := hide hd9
   clear hd9
   by_cases hdn : d9 < 0
   ·go_upto_region 17 with fail
    refine QuietCalls.region (by kernel_rfl) (by kernel_rfl) ?_
    iterate 4 (first | go_big_quiet_step (fail) | quiet_step (fail))
    refine QuietCalls.loadMid rfl 51 _ rfl g (m * 5) rfl y.cs _ (fun v k => rangeAt_below (HI.out.2.2.at HY.out).1 (HI.out.2.2.at HY.out).2 k) Tryz.underlying51 rfl infoFi5 ?_; simp only [Act.put, List.setIfInBounds_toArray, List.set_cons_succ, List.set_cons_zero]
    iterate 3 (first | go_big_quiet_step (fail) | quiet_step (fail))
    refine QuietCalls.loadMid rfl 51 _ rfl g (((i + j) / 2) * 5) rfl z.cs _ (fun v k => rangeAt_below (HI.out.2.2.at HZ.out).1 (HI.out.2.2.at HZ.out).2 k) Tryz.underlying51 rfl infoFi5 ?_; simp only [Act.put, List.setIfInBounds_toArray, List.set_cons_succ, List.set_cons_zero]
    refine QuietCalls.call rfl 17 #[.agg y.cs.toArray, .agg z.cs.toArray] (.int .i64 d9) (fun v _ => by rw [HD9.out]; exact HC.out y HXy.out z HXz.out v) (fun v => by go_simp) ?_; simp only [Act.put, List.setIfInBounds_toArray, List.set_cons_succ, List.set_cons_zero]
    iterate 2 (first | go_big_quiet_step (fail) | quiet_step (fail))
    refine wpQuiet_nil ?_
    intro w2 k2
    have HI2 : Hid ((i = a ∨ ∃ z, l[i - 1]? = some z ∧ ltF y z = false) ∧ ((i + j) / 2 = m ∨ ∃ z, l[(i + j) / 2]? = some z ∧ ltF y z = true) ∧ Fw W g n c l w2) := ⟨HI.out.1, .inr ⟨z, HZ.out, by unfold ltF; rw [← HD9.out]; exact decide_eq_true hdn⟩, HI.out.2.2.step k2⟩
    clear k2 HI
    go_wp2_with fail
    go_roundw
    case rel => exact ⟨i, (i + j) / 2, rfl, by congr 1 <;> omega, hi1, by omega, by omega, HI2.out⟩
    case measure => simp only [intOf]; omega
   ·go_upto_region 17 with fail
    refine QuietCalls.region (by kernel_rfl) (by kernel_rfl) ?_
    iterate 4 (first | go_big_quiet_step (fail) | quiet_step (fail))
    refine QuietCalls.loadMid rfl 51 _ rfl g (m * 5) rfl y.cs _ (fun v k => rangeAt_below (HI.out.2.2.at HY.out).1 (HI.out.2.2.at HY.out).2 k) Tryz.underlying51 rfl infoFi5 ?_; simp only [Act.put, List.setIfInBounds_toArray, List.set_cons_succ, List.set_cons_zero]
    iterate 3 (first | go_big_quiet_step (fail) | quiet_step (fail))
    refine QuietCalls.loadMid rfl 51 _ rfl g (((i + j) / 2) * 5) rfl z.cs _ (fun v k => rangeAt_below (HI.out.2.2.at HZ.out).1 (HI.out.2.2.at HZ.out).2 k) Tryz.underlying51 rfl infoFi5 ?_; simp only [Act.put, List.setIfInBounds_toArray, List.set_cons_succ, List.set_cons_zero]
    refine QuietCalls.call rfl 17 #[.agg y.cs.toArray, .agg z.cs.toArray] (.int .i64 d9) (fun v _ => by rw [HD9.out]; exact HC.out y HXy.out z HXz.out v) (fun v => by go_simp) ?_; simp only [Act.put, List.setIfInBounds_toArray, List.set_cons_succ, List.set_cons_zero]
    iterate 2 (first | go_big_quiet_step (fail) | quiet_step (fail))
    refine wpQuiet_nil ?_
    intro w2 k2
    have HI2 : Hid (((i + j) / 2 + 1 = a ∨ ∃ z, l[(i + j) / 2 + 1 - 1]? = some z ∧ ltF y z = false) ∧ (j = m ∨ ∃ z, l[j]? = some z ∧ ltF y z = true) ∧ Fw W g n c l w2) := ⟨.inr ⟨z, HZ.out, by unfold ltF; rw [← HD9.out]; exact decide_eq_false hdn⟩, HI.out.2.1, HI.out.2.2.step k2⟩
    clear k2 HI
    go_wp2_with fail
    go_roundw
    case rel => exact ⟨(i + j) / 2 + 1, j, by congr 1 <;> omega, rfl, by omega, by omega, hi3, HI2.out⟩
    case measure => simp only [intOf]; omega
  ·obtain rfl : i = j := by omega
   have hltI : ¬ (i : Int) < i := by omega
   obtain ⟨y1, hR⟩ : ∃ y1, R = [y1] := by
    have : R.length = 1 := by have := HE.out.2.2.2; omega
    exact List.length_eq_one_iff.1 this
   have hly : l = X ++ (L ++ y1 :: Z) := by rw [HE.out.1, hR]; rfl
   have hy1 : y1 = y := by
    have h1 := HY.out
    rw [hly, ← List.append_assoc, Stb.get_at (by rw [List.length_append]; have := HE.out.2.1; have := HE.out.2.2.1; omega)] at h1
    exact Option.some.inj h1
   subst hy1
   have hLl : L.length = m - a := by have := HE.out.2.2.1; omega
   have hXl := HE.out.2.1
   obtain ⟨P, Q, hLP, hPl⟩ := cut_at (l := L) (n := i - a) (by omega)
   have hPQ := len_cut hLP
   have hsd : Sd ltF (P ++ y1 :: Q) := baseB swoF (l := l) (X := X) (Z := Z) (i := i) (by rw [hly, hLP]) (by rw [← hLP]; exact HS.out.1) (by omega)
    (HI.out.1.imp (fun h => by omega) fun h => h) (HI.out.2.1.imp (fun h => by rw [List.length_append]; omega) fun h => h)
   have HQ := hide (And.intro hsd (And.intro hLP (And.intro hPl hR)))
   have HM0 : Hid (∃ l2, Mvl X L Z y1 m l2 ∧ Fw W g n c l2 wr) := ⟨l, by rw [hly]; exact Mvl.start (by omega), HI.out.2.2⟩
   have HZN := hide hXl
   clear hsd hLP hPl hR hPQ HI hly hLl hXl
   go_wp2_with fail
   go_loopw [17] (fun v17 wx => ∃ t : Nat, v17 = .int .i64 t ∧ i ≤ t ∧ t ≤ m ∧ Hid (∃ l2, Mvl X L Z y1 t l2 ∧ Fw W g n c l2 wx)) (fun v17 _ => (intOf v17).toNat)
   case atStart => exact ⟨m, rfl, by omega, Nat.le_refl _, HM0.out⟩
   case round =>
    clear HM0
    obtain ⟨t, rfl, ht1, ht2, HT⟩ := hrel
    by_cases htl : i < t
    ·have htlI : (i : Int) < t := by omega
     obtain ⟨l2, hm2, ho⟩ := HT.out
     obtain ⟨x, hy2, hx2, hmv⟩ := hm2.step (by have := HZN.out; omega)
     obtain ⟨q, hq⟩ : ∃ q, q = t - 1 := ⟨_, rfl⟩
     rw [← hq] at hx2 hmv
     obtain ⟨l1, l2', s1, s2, ho2⟩ := OwnR.swapEl Fi.cs_length ho hy2 hx2 fi_one Tryz.prog
     have HW2 := hide (And.intro hmv ho2)
     have n1 : y1.cs.length = 5 := Fi.cs_length y1
     have n2 : x.cs.length = 5 := Fi.cs_length x
     have t0 : (0 : Int) ≤ t := by omega
     have t1 : (t : Int) < n := by omega
     have q0 : (0 : Int) ≤ (t : Int) - 1 := by omega
     have q1 : (t : Int) - 1 < n := by omega
     have qt : ((t : Int) - 1).toNat = q := by omega
     have HQ2 := hide hq
     clear hmv ho2 hm2 ho hx2 hy2 HT hq
     obtain ⟨cY, hcY⟩ : ∃ c, c = y1.cs := ⟨_, rfl⟩
     obtain ⟨cX, hcX⟩ : ∃ c, c = x.cs := ⟨_, rfl⟩
     rw [← hcY] at l1 s2 n1
     rw [← hcX] at l2' s1 s2 n2
     have CC := hide (And.intro hcY hcX)
     clear hcX hcY
     obtain ⟨z9, hz9⟩ : ∃ z, z = 5 := ⟨_, rfl⟩
     rw [← hz9] at l1 l2' s1 s2 zE n1 n2
     have HZ9 := hide hz9
     clear hz9
     go_wp2_with fail
     go_big_region_o
     all_goals go_wp2
     go_roundw
     case rel =>
      refine ⟨q, by have := HQ2.out; congr 1; omega, by have := HQ2.out; omega, by have := HQ2.out; omega, _, HW2.out.1, ?_⟩
      rw [CC.out.1, CC.out.2, HZ9.out]
      exact HW2.out.2
     case measure => simp only [intOf]; have := HQ2.out; omega
    ·have htlI : ¬ (i : Int) < t := by omega
     go_wp2_with fail
     refine bodyPost_ret (results_none rfl _ _ _) rfl ?_
     obtain ⟨l2, ⟨P2, Q2, e1, e2, e3⟩, ho⟩ := HT.out
     obtain ⟨h1, h2, h3, h4⟩ := HQ.out
     have hPP : P.length = P2.length := by have := HZN.out; omega
     rw [h2] at e1
     obtain ⟨rfl, rfl⟩ := same_cut e1 hPP
     refine ⟨rfl, P ++ y1 :: Q, ?_, h1, ?_⟩
     ·rw [h4, h2]
      have : (P ++ y1 :: Q).Perm (y1 :: (P ++ Q)) := List.perm_middle
      exact this.trans (List.perm_append_comm (l₁ := [y1]))
     ·rw [e3] at ho
      rw [List.append_assoc, List.cons_append]
      exact ho
/-- What the halves come to: by the parts of the two runs. -/
theorem merge_tail {W : World} {g n c : Nat} (hn : n ≤ 100000) (k : Nat) (X L L1 L2 R R1 R2 Z : List Fi) (a m b s d f : Nat) (wr : World) (hL : L = L1 ++ L2) (hR : R = R1 ++ R2) (hW0 : Fw W g n c (X ++ (L1 ++ (L2 ++ (R1 ++ (R2 ++ Z))))) wr) (hq : ∀ x, (x ∈ X ∨ x ∈ L1 ∨ x ∈ L2 ∨ x ∈ R1 ∨ x ∈ R2 ∨ x ∈ Z) → x.path.length ≤ 1000) (hcr : ∀ u ∈ L1 ++ R1, ∀ v ∈ L2 ++ R2, ltF v u = false) (hsL1 : Sd ltF L1 ∧ Sd ltF L2) (hsR1 : Sd ltF R1 ∧ Sd ltF R2)
  (hd : a < d ∧ d < b) (hN : a = X.length ∧ L1.length + a = s ∧ L2.length + s = m ∧ R1.length + m = f ∧ R2.length + f = b ∧ f + s = d + m ∧ b ≤ a + (k + 1))
  (ih : ∀ (X L R Z : List Fi) (a m b : Nat) (w : World), Fw W g n c (X ++ (L ++ (R ++ Z))) w → (∀ f, f ∈ X ∨ f ∈ L ∨ f ∈ R ∨ f ∈ Z → f.path.length ≤ 1000) → a = X.length → m = a + L.length → b = m + R.length → 1 ≤ L.length → 1 ≤ R.length → Sd ltF L → Sd ltF R → b ≤ a + k → Symm W g n c X L R Z a m b w) :
  ∃ S1 S2 : World → Prop,
   (s < m ∧ m < f → Calls Tryz.prog 126 #[.slice (some ⟨g, 0, none⟩) n c, .int .i64 s, .int .i64 m, .int .i64 f, .func (.func 17) #[] #[]] wr fun e w' => e = .returned (.tuple #[]) ∧ S1 w') ∧ (¬ (s < m ∧ m < f) → S1 wr) ∧
   (∀ w, S1 w → a < s ∧ s < d → Calls Tryz.prog 105 #[.slice (some ⟨g, 0, none⟩) n c, .int .i64 a, .int .i64 s, .int .i64 d, .func (.func 17) #[] #[]] w fun e w' => e = .returned (.tuple #[]) ∧ S2 w') ∧ (∀ w, S1 w → ¬ (a < s ∧ s < d) → S2 w) ∧
   (∀ w, S2 w → d < f ∧ f < b → Calls Tryz.prog 105 #[.slice (some ⟨g, 0, none⟩) n c, .int .i64 d, .int .i64 f, .int .i64 b, .func (.func 17) #[] #[]] w fun e w' => e = .returned (.tuple #[]) ∧ ∃ M, M.Perm (L ++ R) ∧ Sd ltF M ∧ Fw W g n c (X ++ (M ++ Z)) w') ∧ (∀ w, S2 w → ¬ (d < f ∧ f < b) → ∃ M, M.Perm (L ++ R) ∧ Sd ltF M ∧ Fw W g n c (X ++ (M ++ Z)) w) := by
 obtain ⟨e1, e2, e3, e4, e5, e6, e7⟩ := hN
 have hend : ∀ (M1 M : List Fi) (w9 : World), M1.Perm (L1 ++ R1) → Sd ltF M1 → M.Perm (L2 ++ R2) → Sd ltF M → Fw W g n c (X ++ (M1 ++ (M ++ Z))) w9 → ∃ M, M.Perm (L ++ R) ∧ Sd ltF M ∧ Fw W g n c (X ++ (M ++ Z)) w9 := by
  intro M1 M w9 h6 h7 h1 h2 h3
  obtain ⟨h4, h5⟩ := joined h7 h2 h6 h1 hcr
  refine ⟨M1 ++ M, ?_, h4, by rw [List.append_assoc]; exact h3⟩
  rw [hL, hR]
  exact h5
 refine ⟨fun w => Fw W g n c (X ++ (L1 ++ (R1 ++ (L2 ++ (R2 ++ Z))))) w, fun w => ∃ M, M.Perm (L1 ++ R1) ∧ Sd ltF M ∧ Fw W g n c (X ++ (M ++ (L2 ++ (R2 ++ Z)))) w, ?_, ?_, ?_, ?_, ?_, ?_⟩
 ·rintro ⟨h1, h2⟩
  have := rotate_any (X := X ++ L1) (U := L2) (V := R1) (Z := R2 ++ Z) (a := s) (m := m) (b := f) wr (by rw [List.append_assoc]; exact hW0) (by rw [List.length_append]; omega) (by rw [List.length_append]; omega) (by rw [List.length_append]; omega) (by omega) (by omega) hn
  rw [List.append_assoc] at this
  exact this
 ·intro hg
  have h1 := hW0
  by_cases g1 : s < m
  ·have h0 : R1 = [] := List.length_eq_zero_iff.1 (by omega)
   rw [h0] at h1 ⊢; exact h1
  ·have h0 : L2 = [] := List.length_eq_zero_iff.1 (by omega)
   rw [h0] at h1 ⊢; exact h1
 ·rintro w hw ⟨h1, h2⟩
  refine ih X L1 R1 (L2 ++ (R2 ++ Z)) a s d w hw (fun x hx => hq x ?_) e1 (by omega) (by omega) (by omega) (by omega) hsL1.1 hsR1.1 (by omega)
  simp only [List.mem_append] at hx
  rcases hx with h | h | h | h | h | h
  ·exact .inl h
  ·exact .inr (.inl h)
  ·exact .inr (.inr (.inr (.inl h)))
  ·exact .inr (.inr (.inl h))
  ·exact .inr (.inr (.inr (.inr (.inl h))))
  ·exact .inr (.inr (.inr (.inr (.inr h))))
 ·intro w h1 hg
  by_cases g1 : a < s
  ·have h0 : R1 = [] := List.length_eq_zero_iff.1 (by omega)
   exact ⟨L1, by rw [h0, List.append_nil], hsL1.1, by rw [h0] at h1; exact h1⟩
  ·have h0 : L1 = [] := List.length_eq_zero_iff.1 (by omega)
   exact ⟨R1, by rw [h0]; exact List.Perm.refl _, hsR1.1, by rw [h0] at h1; exact h1⟩
 ·rintro w ⟨M1, hM1, hM2, hM3⟩ ⟨h1, h2⟩
  have hl9 := hM1.length_eq
  rw [List.length_append] at hl9
  have h9 := ih (X ++ M1) L2 R2 Z d f b w (by rw [List.append_assoc]; exact hM3) (fun x hx => hq x ?_) (by rw [List.length_append]; omega) (by omega) (by omega) (by omega) (by omega) hsL1.2 hsR1.2 (by omega)
  ·refine h9.mono ?_
   rintro e w' ⟨he, M, h3, h4, h5⟩
   exact ⟨he, hend M1 M w' hM1 hM2 h3 h4 (by rw [← List.append_assoc]; exact h5)⟩
  ·rw [List.mem_append, hM1.mem_iff, List.mem_append] at hx
   rcases hx with (h | h | h) | h | h | h
   ·exact .inl h
   ·exact .inr (.inl h)
   ·exact .inr (.inr (.inr (.inl h)))
   ·exact .inr (.inr (.inl h))
   ·exact .inr (.inr (.inr (.inr (.inl h))))
   ·exact .inr (.inr (.inr (.inr (.inr h))))
 ·rintro w ⟨M1, hM1, hM2, hM3⟩ hg
  by_cases g1 : d < f
  ·have h0 : R2 = [] := List.length_eq_zero_iff.1 (by omega)
   exact hend M1 L2 w hM1 hM2 (by rw [h0, List.append_nil]) hsL1.2 (by rw [h0] at hM3; exact hM3)
  ·have h0 : L2 = [] := List.length_eq_zero_iff.1 (by omega)
   exact hend M1 R2 w hM1 hM2 (by rw [h0]; exact List.Perm.refl _) hsR1.2 (by rw [h0] at hM3; exact hM3)
end Go.Proofs.YtnbhchdaobimmaaGreatDoor
/- Contract: slices' symMerge of files, where more than half stands in the first run. Laid by tools/mkmerge.py. -/
namespace Go.Proofs.YtnbhchdaobimmaaGreatDoor
open Go.RowKit Go.Img Go.Pln Go.Shelf Go.Rws Go.Stb
attribute [local go_sem] Oper.semAt_some
set_option maxHeartbeats 16000000 in
set_option maxRecDepth 100000 in
theorem symmC {W : World} {g n c : Nat} (hn : n ≤ 100000) (k : Nat) (X L R Z : List Fi) (a m b : Nat) (w : World) (hw : Fw W g n c (X ++ (L ++ (R ++ Z))) w) (hp : ∀ f, f ∈ X ∨ f ∈ L ∨ f ∈ R ∨ f ∈ Z → f.path.length ≤ 1000) (ha : a = X.length) (hm : m = a + L.length) (hb : b = m + R.length) (hL1 : 1 ≤ L.length) (hR1 : 1 ≤ R.length) (hsL : Sd ltF L) (hsR : Sd ltF R) (hbk : b ≤ a + (k + 1)) (ih : ∀ (X L R Z : List Fi) (a m b : Nat) (w : World), Fw W g n c (X ++ (L ++ (R ++ Z))) w → (∀ f, f ∈ X ∨ f ∈ L ∨ f ∈ R ∨ f ∈ Z → f.path.length ≤ 1000) → a = X.length → m = a + L.length → b = m + R.length → 1 ≤ L.length → 1 ≤ R.length → Sd ltF L → Sd ltF R → b ≤ a + k → Symm W g n c X L R Z a m b w) (_hma : ¬ m - a = 1) (hbm : ¬ b - m = 1) (hmd0 : (a + b) / 2 < m) :
  Symm W g n c X L R Z a m b w := by
 unfold Symm
 have hlen := hw.len
 simp only [List.length_append] at hlen
 have ham : a < m := by omega
 have hmb : m < b := by omega
 have hbn : b ≤ n := by omega
 obtain ⟨l, hl⟩ : ∃ l, l = X ++ (L ++ (R ++ Z)) := ⟨_, rfl⟩
 have HN : Hid (n = l.length) := by show _ = _; rw [hl]; exact hw.len
 rw [← hl] at hw
 have HPl : Hid (∀ f ∈ l, f.path.length ≤ 1000) := by
  intro f hf
  rw [hl] at hf
  simp only [List.mem_append] at hf
  exact hp f hf
 have HPp := hide hp
 have HE := hide (And.intro hl (And.intro ha (And.intro hm hb)))
 have HS := hide (And.intro hsL hsR)
 have HC := hide (fun (x : Fi) (hx : x.path.length ≤ 1000) (y : Fi) (hy : y.path.length ≤ 1000) (v : World) => fcmp_below x y hx hy v)
 have HIH := hide ih
 clear ih
 have H0 := hide hw
 have hget : Hid (∀ i, i < n → ∃ x, l[i]? = some x) := fun i hi => ⟨_, List.getElem?_eq_getElem (by rw [← HN.out]; exact hi)⟩
 clear hw hp ha hm hb hsL hsR hl hlen
 have aE := isAggF5
 have zE := sizeOfF5
 have mixed := mixedO
 have hnI : (n : Int) ≤ 100000 := by omega
 have ha0 : (0 : Int) ≤ a := by omega
 have haN : (a : Int) < n := by omega
 have hm0 : (0 : Int) ≤ m := by omega
 have hmN : (m : Int) < n := by omega
 have hbN : (b : Int) ≤ n := by omega
 go_enter Tryz.func105, Tryz.ntmps105
 have hmaI : ¬ (m : Int) - a = 1 := by omega
 have hmaB : ((m : Int) - a == 1) = false := by rw [beq_eq_false_iff_ne]; exact hmaI
 have hbmI : ¬ (b : Int) - m = 1 := by omega
 have hbmB : ((b : Int) - m == 1) = false := by rw [beq_eq_false_iff_ne]; exact hbmI
 have hab0 : (0 : Int) ≤ ((a : Int) + b) / 2 := by omega
 have hab1 : ((a : Int) + b) / 2 ≤ 100000 := by omega
 go_upto_region 25 with fail
 obtain ⟨d, hd⟩ : ∃ d : Nat, d = (a + b) / 2 := ⟨_, rfl⟩
 have hdI : ((a : Int) + b) / 2 = d := by omega
 simp only [hdI]
 have hd1 : a + 2 ≤ d := by omega
 have hd2 : d + 2 ≤ b := by omega
 have hd0 : (0 : Int) ≤ d := by omega
 have hdN : (d : Int) ≤ 100000 := by omega
 have HD := hide hd
 clear hdI hab0 hab1 hd
 have hmd : d < m := by rw [HD.out]; exact hmd0
 clear hmd0
 have hmdI : (d : Int) < m := by omega
 obtain ⟨s0, hs0⟩ : ∃ s0 : Nat, s0 + b = d + m := ⟨d + m - b, by have := HD.out; omega⟩
 have hsI : (d : Int) + m - b = s0 := by omega
 have hs00 : (0 : Int) ≤ s0 := by omega
 have hs01 : (s0 : Int) ≤ 200000 := by omega
 obtain ⟨p, hpp⟩ : ∃ p : Nat, p + 1 = d + m := ⟨d + m - 1, by omega⟩
 have hpI : (d : Int) + m - 1 = p := by omega
 have hp00 : (0 : Int) ≤ p := by omega
 have hp01 : (p : Int) ≤ 200000 := by omega
 have has0 : a ≤ s0 := by have := HD.out; omega
 have hs0d : s0 ≤ d := by omega
 have HZ := hide (And.intro hs0 hpp)
 clear hs0 hpp
 go_upto_region 32 with fail
 try simp only [hsI]
 go_upto_region 33 with fail
 try simp only [hpI]
 clear hpI hsI
 go_loopw [20, 21] (fun v20 v21 wx => ∃ s r : Nat, v20 = .int .i64 s ∧ v21 = .int .i64 r ∧ s0 ≤ s ∧ s ≤ r ∧ r ≤ d ∧ Hid ((s = s0 ∨ ∃ x y, l[p - (s - 1)]? = some x ∧ l[s - 1]? = some y ∧ ltF x y = false) ∧ (r = d ∨ ∃ x y, l[p - r]? = some x ∧ l[r]? = some y ∧ ltF x y = true) ∧ Fw W g n c l wx)) (fun v20 v21 _ => (intOf v21).toNat - (intOf v20).toNat)
 case atStart => exact ⟨s0, d, rfl, rfl, Nat.le_refl _, hs0d, Nat.le_refl _, .inl rfl, .inl rfl, H0.out⟩
 case round =>
  clear H0
  obtain ⟨s, r, rfl, rfl, hi1, hi2, hi3, HI⟩ := hrel
  have hs0I : (0 : Int) ≤ s := by omega
  by_cases hlt : s < r
  ·have hltI : (s : Int) < r := by omega
   have hr0 : (0 : Int) ≤ ((s : Int) + r) / 2 := by omega
   have hr1 : ((s : Int) + r) / 2 ≤ 100000 := by omega
   have hdI9 : (r : Int) ≤ 100000 := by omega
   go_upto_region 35 with fail
   obtain ⟨c1, hc⟩ : ∃ c : Nat, c = (s + r) / 2 := ⟨_, rfl⟩
   have hccI : ((s : Int) + r) / 2 = c1 := by omega
   simp only [hccI]
   have HCI := hide (And.intro hccI hc)
   clear hr0 hr1 hccI hc
   have hzq := HZ.out.1
   have hpc : c1 ≤ p := by have := HCI.out.2; have := HZ.out.2; omega
   have hcle : s ≤ c1 ∧ c1 < r := by have := HCI.out.2; omega
   have hzz := HZ.out.2
   obtain ⟨q, hq⟩ : ∃ q, q = p - c1 := ⟨_, rfl⟩
   have hqn : q < n := by have := HD.out; omega
   obtain ⟨x, hx⟩ := hget.out q hqn
   have HXx := hide (HPl.out x (List.mem_of_getElem? hx))
   obtain ⟨y, hy⟩ := hget.out c1 (by omega)
   have HXy := hide (HPl.out y (List.mem_of_getElem? hy))
   have hc0 : (0 : Int) ≤ c1 := by omega
   have hc1 : (c1 : Int) < n := by omega
   have ht0 : (0 : Int) ≤ (p : Int) - c1 := by omega
   have ht1 : (p : Int) - c1 < n := by omega
   have htt : ((p : Int) - c1).toNat = q := by omega
   have HXY := hide (And.intro hx (And.intro hy hq))
   clear hx hy hzz hzq hpc hcle hq hqn
   obtain ⟨d9, hd9⟩ : ∃ d, d = cmpF x y := ⟨_, rfl⟩
   have HD9 := hide hd9
   clear hd9
   by_cases hdn : d9 < 0
   ·skip
    refine QuietCalls.region (by kernel_rfl) (by kernel_rfl) ?_
    iterate 6 (first | go_big_quiet_step (fail) | quiet_step (fail))
    refine QuietCalls.loadMid rfl 51 _ rfl g (q * 5) rfl x.cs _ (fun v k => rangeAt_below (HI.out.2.2.at HXY.out.1).1 (HI.out.2.2.at HXY.out.1).2 k) Tryz.underlying51 rfl infoFi5 ?_; simp only [Act.put, List.setIfInBounds_toArray, List.set_cons_succ, List.set_cons_zero]
    iterate 3 (first | go_big_quiet_step (fail) | quiet_step (fail))
    refine QuietCalls.loadMid rfl 51 _ rfl g (c1 * 5) rfl y.cs _ (fun v k => rangeAt_below (HI.out.2.2.at HXY.out.2.1).1 (HI.out.2.2.at HXY.out.2.1).2 k) Tryz.underlying51 rfl infoFi5 ?_; simp only [Act.put, List.setIfInBounds_toArray, List.set_cons_succ, List.set_cons_zero]
    refine QuietCalls.call rfl 17 #[.agg x.cs.toArray, .agg y.cs.toArray] (.int .i64 d9) (fun v _ => by rw [HD9.out]; exact HC.out x HXx.out y HXy.out v) (fun v => by go_simp) ?_; simp only [Act.put, List.setIfInBounds_toArray, List.set_cons_succ, List.set_cons_zero]
    iterate 2 (first | go_big_quiet_step (fail) | quiet_step (fail))
    refine wpQuiet_nil ?_
    intro w2 k2
    have HI2 : Hid ((s = s0 ∨ ∃ x y, l[p - (s - 1)]? = some x ∧ l[s - 1]? = some y ∧ ltF x y = false) ∧ (c1 = d ∨ ∃ x y, l[p - c1]? = some x ∧ l[c1]? = some y ∧ ltF x y = true) ∧ Fw W g n c l w2) := ⟨HI.out.1, .inr ⟨x, y, by rw [← HXY.out.2.2]; exact HXY.out.1, HXY.out.2.1, by unfold ltF; rw [← HD9.out]; exact decide_eq_true hdn⟩, HI.out.2.2.step k2⟩
    clear k2 HI
    go_wp2_with fail
    go_roundw
    case rel => exact ⟨s, c1, rfl, rfl, hi1, by have := HCI.out.2; omega, by have := HCI.out.2; omega, HI2.out⟩
    case measure => simp only [intOf]; have := HCI.out.2; omega
   ·skip
    refine QuietCalls.region (by kernel_rfl) (by kernel_rfl) ?_
    iterate 6 (first | go_big_quiet_step (fail) | quiet_step (fail))
    refine QuietCalls.loadMid rfl 51 _ rfl g (q * 5) rfl x.cs _ (fun v k => rangeAt_below (HI.out.2.2.at HXY.out.1).1 (HI.out.2.2.at HXY.out.1).2 k) Tryz.underlying51 rfl infoFi5 ?_; simp only [Act.put, List.setIfInBounds_toArray, List.set_cons_succ, List.set_cons_zero]
    iterate 3 (first | go_big_quiet_step (fail) | quiet_step (fail))
    refine QuietCalls.loadMid rfl 51 _ rfl g (c1 * 5) rfl y.cs _ (fun v k => rangeAt_below (HI.out.2.2.at HXY.out.2.1).1 (HI.out.2.2.at HXY.out.2.1).2 k) Tryz.underlying51 rfl infoFi5 ?_; simp only [Act.put, List.setIfInBounds_toArray, List.set_cons_succ, List.set_cons_zero]
    refine QuietCalls.call rfl 17 #[.agg x.cs.toArray, .agg y.cs.toArray] (.int .i64 d9) (fun v _ => by rw [HD9.out]; exact HC.out x HXx.out y HXy.out v) (fun v => by go_simp) ?_; simp only [Act.put, List.setIfInBounds_toArray, List.set_cons_succ, List.set_cons_zero]
    iterate 2 (first | go_big_quiet_step (fail) | quiet_step (fail))
    refine wpQuiet_nil ?_
    intro w2 k2
    have HI2 : Hid ((c1 + 1 = s0 ∨ ∃ x y, l[p - (c1 + 1 - 1)]? = some x ∧ l[c1 + 1 - 1]? = some y ∧ ltF x y = false) ∧ (r = d ∨ ∃ x y, l[p - r]? = some x ∧ l[r]? = some y ∧ ltF x y = true) ∧ Fw W g n c l w2) := ⟨.inr ⟨x, y, by rw [Nat.add_sub_cancel, ← HXY.out.2.2]; exact HXY.out.1, HXY.out.2.1, by unfold ltF; rw [← HD9.out]; exact decide_eq_false hdn⟩, HI.out.2.1, HI.out.2.2.step k2⟩
    clear k2 HI
    go_wp2_with fail
    go_roundw
    case rel => exact ⟨c1 + 1, r, by congr 1 <;> omega, rfl, by have := HCI.out.2; omega, by have := HCI.out.2; omega, hi3, HI2.out⟩
    case measure => simp only [intOf]; have := HCI.out.2; omega
  ·obtain rfl : s = r := by omega
   have hltI : ¬ (s : Int) < s := by omega
   obtain ⟨f, hf⟩ : ∃ f : Nat, f + s = d + m := ⟨d + m - s, by omega⟩
   have hfI : (d : Int) + m - s = f := by omega
   have hmf : m ≤ f := by omega
   have hfb : f ≤ b := by have := HD.out; have := HZ.out.1; omega
   have hsm : s ≤ m := by omega
   have hsd : s ≤ d := by omega
   have has : a ≤ s := by omega
   have hX := HE.out.2.1
   have hLl : m = a + L.length := HE.out.2.2.1
   have hRl : b = m + R.length := HE.out.2.2.2
   obtain ⟨L1, L2, hL, hL1l⟩ := cut_at (l := L) (n := s - a) (by omega)
   obtain ⟨R1, R2, hR, hR1l⟩ := cut_at (l := R) (n := f - m) (by omega)
   have hL12 := len_cut hL
   have hR12 := len_cut hR
   have hp9 := HZ.out.2
   have hz9 := HZ.out.1
   have hE0 : l = X ++ (L1 ++ (L2 ++ (R1 ++ (R2 ++ Z)))) := by rw [HE.out.1, hL, hR]; simp only [List.append_assoc]
   have hcr : ∀ u ∈ L1 ++ R1, ∀ v ∈ L2 ++ R2, ltF v u = false := by
    refine cross swoF (l := l) (X := X) (Z := Z) (s := s) (f := f) hE0 (by rw [← hL]; exact HS.out.1) (by rw [← hR]; exact HS.out.2) (by omega) (by omega) ?_ ?_
    ·rcases HI.out.1 with h | ⟨x, y, h1, h2, h3⟩
     ·right; left; exact List.length_eq_zero_iff.1 (by omega)
     ·by_cases h0 : s = 0
      ·left; exact List.length_eq_zero_iff.1 (by omega)
      ·rw [show p - (s - 1) = f by omega] at h1
       exact .inr (.inr ⟨y, x, h2, h1, h3⟩)
    ·rcases HI.out.2.1 with h | ⟨x, y, h1, h2, h3⟩
     ·right; left; exact List.length_eq_zero_iff.1 (by omega)
     ·rw [show p - s = f - 1 by omega] at h1
      exact .inr (.inr ⟨y, x, h2, h1, h3⟩)
   have hsL1 : Sd ltF L1 ∧ Sd ltF L2 := by have := HS.out.1; rw [hL] at this; exact ⟨(List.pairwise_append.1 this).1, (List.pairwise_append.1 this).2.1⟩
   have hsR1 : Sd ltF R1 ∧ Sd ltF R2 := by have := HS.out.2; rw [hR] at this; exact ⟨(List.pairwise_append.1 this).1, (List.pairwise_append.1 this).2.1⟩
   have hW0 : Fw W g n c (X ++ (L1 ++ (L2 ++ (R1 ++ (R2 ++ Z))))) wr := by rw [← hE0]; exact HI.out.2.2
   have hq : ∀ x, (x ∈ X ∨ x ∈ L1 ∨ x ∈ L2 ∨ x ∈ R1 ∨ x ∈ R2 ∨ x ∈ Z) → x.path.length ≤ 1000 := by
    intro x hx
    refine HPp.out x ?_
    rw [hL, hR]
    simp only [List.mem_append]
    rcases hx with h | h | h | h | h | h
    ·exact .inl h
    ·exact .inr (.inl (.inl h))
    ·exact .inr (.inl (.inr h))
    ·exact .inr (.inr (.inl (.inl h)))
    ·exact .inr (.inr (.inl (.inr h)))
    ·exact .inr (.inr (.inr h))
   obtain ⟨S1, S2, hT⟩ := merge_tail hn k X L L1 L2 R R1 R2 Z a m b s d f wr hL hR hW0 hq hcr hsL1 hsR1 ⟨by omega, by omega⟩ ⟨hX, by omega, by omega, by omega, by omega, hf, by omega⟩ HIH.out
   have HT := hide hT
   clear hT hcr hsL1 hsR1 hq hL hR hE0 hW0 hL1l hR1l hL12 hR12 hX hLl hRl HI hp9 hz9 HIH HPl HPp HS HC HE hget
   go_upto_region 39 with fail
   try simp only [hfI]
   clear hfI
   by_cases p1 : s < d
   ·by_cases p2 : a < s
    ·by_cases p3 : f < b
     ·have i1 : (s : Int) < m := by omega
      have i2 : (m : Int) < f := by omega
      have i3 : (a : Int) < s := by omega
      have i4 : (s : Int) < d := by omega
      have i5 : (d : Int) < f := by omega
      have i6 : (f : Int) < b := by omega
      have hc1 : (s < m ∧ m < f) := by omega
      have hc2 : (a < s ∧ s < d) := by omega
      have hc3 : (d < f ∧ f < b) := by omega
      have HL := hide (HT.out.1 hc1)
      clear hf
      go_wp2_with (first | (go_at_call 126; refine HL.out.mono ?_; rintro r w5 ⟨rfl, k5⟩; have H1 := hide k5; clear k5 HL; have HM := hide (HT.out.2.2.1 w5 H1.out hc2)) | (go_at_call 105; refine HM.out.mono ?_; rintro r w6 ⟨rfl, k6⟩; have H2 := hide k6; clear k6 HM; have HN := hide (HT.out.2.2.2.2.1 w6 H2.out hc3)) | (go_at_call 105; refine HN.out.mono ?_; rintro r w7 ⟨rfl, k7⟩; have H3 := hide k7; clear k7 HN))
      go_end0
      exact ⟨rfl, H3.out⟩
     ·have i1 : (s : Int) < m := by omega
      have i2 : (m : Int) < f := by omega
      have i3 : (a : Int) < s := by omega
      have i4 : (s : Int) < d := by omega
      have i5 : (d : Int) < f := by omega
      have i6 : ¬ (f : Int) < b := by omega
      have hc1 : (s < m ∧ m < f) := by omega
      have hc2 : (a < s ∧ s < d) := by omega
      have hc3 : ¬ (d < f ∧ f < b) := by omega
      have HL := hide (HT.out.1 hc1)
      clear hf
      go_wp2_with (first | (go_at_call 126; refine HL.out.mono ?_; rintro r w5 ⟨rfl, k5⟩; have H1 := hide k5; clear k5 HL; have HM := hide (HT.out.2.2.1 w5 H1.out hc2)) | (go_at_call 105; refine HM.out.mono ?_; rintro r w6 ⟨rfl, k6⟩; have H2 := hide k6; clear k6 HM; have H3 := hide (HT.out.2.2.2.2.2 w6 H2.out hc3)))
      go_end0
      exact ⟨rfl, H3.out⟩
    ·by_cases p3 : f < b
     ·have i1 : (s : Int) < m := by omega
      have i2 : (m : Int) < f := by omega
      have i3 : ¬ (a : Int) < s := by omega
      have i4 : (s : Int) < d := by omega
      have i5 : (d : Int) < f := by omega
      have i6 : (f : Int) < b := by omega
      have hc1 : (s < m ∧ m < f) := by omega
      have hc2 : ¬ (a < s ∧ s < d) := by omega
      have hc3 : (d < f ∧ f < b) := by omega
      have HL := hide (HT.out.1 hc1)
      clear hf
      go_wp2_with (first | (go_at_call 126; refine HL.out.mono ?_; rintro r w5 ⟨rfl, k5⟩; have H1 := hide k5; clear k5 HL; have H2 := hide (HT.out.2.2.2.1 w5 H1.out hc2); have HN := hide (HT.out.2.2.2.2.1 w5 H2.out hc3)) | (go_at_call 105; refine HN.out.mono ?_; rintro r w7 ⟨rfl, k7⟩; have H3 := hide k7; clear k7 HN))
      go_end0
      exact ⟨rfl, H3.out⟩
     ·have i1 : (s : Int) < m := by omega
      have i2 : (m : Int) < f := by omega
      have i3 : ¬ (a : Int) < s := by omega
      have i4 : (s : Int) < d := by omega
      have i5 : (d : Int) < f := by omega
      have i6 : ¬ (f : Int) < b := by omega
      have hc1 : (s < m ∧ m < f) := by omega
      have hc2 : ¬ (a < s ∧ s < d) := by omega
      have hc3 : ¬ (d < f ∧ f < b) := by omega
      have HL := hide (HT.out.1 hc1)
      clear hf
      go_wp2_with (go_at_call 126; refine HL.out.mono ?_; rintro r w5 ⟨rfl, k5⟩; have H1 := hide k5; clear k5 HL; have H2 := hide (HT.out.2.2.2.1 w5 H1.out hc2); have H3 := hide (HT.out.2.2.2.2.2 w5 H2.out hc3))
      go_end0
      exact ⟨rfl, H3.out⟩
   ·by_cases p2 : a < s
    ·by_cases p3 : f < b
     ·have i1 : (s : Int) < m := by omega
      have i2 : ¬ (m : Int) < f := by omega
      have i3 : (a : Int) < s := by omega
      have i4 : ¬ (s : Int) < d := by omega
      have i5 : (d : Int) < f := by omega
      have i6 : (f : Int) < b := by omega
      have hc1 : ¬ (s < m ∧ m < f) := by omega
      have hc2 : ¬ (a < s ∧ s < d) := by omega
      have hc3 : (d < f ∧ f < b) := by omega
      have H1 := hide (HT.out.2.1 hc1)
      have H2 := hide (HT.out.2.2.2.1 wr H1.out hc2)
      have HN := hide (HT.out.2.2.2.2.1 wr H2.out hc3)
      clear hf
      go_wp2_with (go_at_call 105; refine HN.out.mono ?_; rintro r w7 ⟨rfl, k7⟩; have H3 := hide k7; clear k7 HN)
      go_end0
      exact ⟨rfl, H3.out⟩
     ·have i1 : (s : Int) < m := by omega
      have i2 : ¬ (m : Int) < f := by omega
      have i3 : (a : Int) < s := by omega
      have i4 : ¬ (s : Int) < d := by omega
      have i5 : (d : Int) < f := by omega
      have i6 : ¬ (f : Int) < b := by omega
      have hc1 : ¬ (s < m ∧ m < f) := by omega
      have hc2 : ¬ (a < s ∧ s < d) := by omega
      have hc3 : ¬ (d < f ∧ f < b) := by omega
      have H1 := hide (HT.out.2.1 hc1)
      have H2 := hide (HT.out.2.2.2.1 wr H1.out hc2)
      have H3 := hide (HT.out.2.2.2.2.2 wr H2.out hc3)
      clear hf
      go_wp2_with fail
      go_end0
      exact ⟨rfl, H3.out⟩
    ·by_cases p3 : f < b
     ·have i1 : (s : Int) < m := by omega
      have i2 : ¬ (m : Int) < f := by omega
      have i3 : ¬ (a : Int) < s := by omega
      have i4 : ¬ (s : Int) < d := by omega
      have i5 : (d : Int) < f := by omega
      have i6 : (f : Int) < b := by omega
      have hc1 : ¬ (s < m ∧ m < f) := by omega
      have hc2 : ¬ (a < s ∧ s < d) := by omega
      have hc3 : (d < f ∧ f < b) := by omega
      have H1 := hide (HT.out.2.1 hc1)
      have H2 := hide (HT.out.2.2.2.1 wr H1.out hc2)
      have HN := hide (HT.out.2.2.2.2.1 wr H2.out hc3)
      clear hf
      go_wp2_with (go_at_call 105; refine HN.out.mono ?_; rintro r w7 ⟨rfl, k7⟩; have H3 := hide k7; clear k7 HN)
      go_end0
      exact ⟨rfl, H3.out⟩
     ·have i1 : (s : Int) < m := by omega
      have i2 : ¬ (m : Int) < f := by omega
      have i3 : ¬ (a : Int) < s := by omega
      have i4 : ¬ (s : Int) < d := by omega
      have i5 : (d : Int) < f := by omega
      have i6 : ¬ (f : Int) < b := by omega
      have hc1 : ¬ (s < m ∧ m < f) := by omega
      have hc2 : ¬ (a < s ∧ s < d) := by omega
      have hc3 : ¬ (d < f ∧ f < b) := by omega
      have H1 := hide (HT.out.2.1 hc1)
      have H2 := hide (HT.out.2.2.2.1 wr H1.out hc2)
      have H3 := hide (HT.out.2.2.2.2.2 wr H2.out hc3)
      clear hf
      go_wp2_with fail
      go_end0
      exact ⟨rfl, H3.out⟩
end Go.Proofs.YtnbhchdaobimmaaGreatDoor
/- Contract: slices' symMerge of files, where at most half stands in the first run. Laid by tools/mkmerge.py. -/
namespace Go.Proofs.YtnbhchdaobimmaaGreatDoor
open Go.RowKit Go.Img Go.Pln Go.Shelf Go.Rws Go.Stb
attribute [local go_sem] Oper.semAt_some
set_option maxHeartbeats 16000000 in
set_option maxRecDepth 100000 in
theorem symmD {W : World} {g n c : Nat} (hn : n ≤ 100000) (k : Nat) (X L R Z : List Fi) (a m b : Nat) (w : World) (hw : Fw W g n c (X ++ (L ++ (R ++ Z))) w) (hp : ∀ f, f ∈ X ∨ f ∈ L ∨ f ∈ R ∨ f ∈ Z → f.path.length ≤ 1000) (ha : a = X.length) (hm : m = a + L.length) (hb : b = m + R.length) (hL1 : 1 ≤ L.length) (hR1 : 1 ≤ R.length) (hsL : Sd ltF L) (hsR : Sd ltF R) (hbk : b ≤ a + (k + 1)) (ih : ∀ (X L R Z : List Fi) (a m b : Nat) (w : World), Fw W g n c (X ++ (L ++ (R ++ Z))) w → (∀ f, f ∈ X ∨ f ∈ L ∨ f ∈ R ∨ f ∈ Z → f.path.length ≤ 1000) → a = X.length → m = a + L.length → b = m + R.length → 1 ≤ L.length → 1 ≤ R.length → Sd ltF L → Sd ltF R → b ≤ a + k → Symm W g n c X L R Z a m b w) (hma : ¬ m - a = 1) (hbm : ¬ b - m = 1) (hmd0 : ¬ (a + b) / 2 < m) :
  Symm W g n c X L R Z a m b w := by
 unfold Symm
 have hlen := hw.len
 simp only [List.length_append] at hlen
 have ham : a < m := by omega
 have hmb : m < b := by omega
 have hbn : b ≤ n := by omega
 obtain ⟨l, hl⟩ : ∃ l, l = X ++ (L ++ (R ++ Z)) := ⟨_, rfl⟩
 have HN : Hid (n = l.length) := by show _ = _; rw [hl]; exact hw.len
 rw [← hl] at hw
 have HPl : Hid (∀ f ∈ l, f.path.length ≤ 1000) := by
  intro f hf
  rw [hl] at hf
  simp only [List.mem_append] at hf
  exact hp f hf
 have HPp := hide hp
 have HE := hide (And.intro hl (And.intro ha (And.intro hm hb)))
 have HS := hide (And.intro hsL hsR)
 have HC := hide (fun (x : Fi) (hx : x.path.length ≤ 1000) (y : Fi) (hy : y.path.length ≤ 1000) (v : World) => fcmp_below x y hx hy v)
 have HIH := hide ih
 clear ih
 have H0 := hide hw
 have hget : Hid (∀ i, i < n → ∃ x, l[i]? = some x) := fun i hi => ⟨_, List.getElem?_eq_getElem (by rw [← HN.out]; exact hi)⟩
 clear hw hp ha hm hb hsL hsR hl hlen
 have aE := isAggF5
 have zE := sizeOfF5
 have mixed := mixedO
 have hnI : (n : Int) ≤ 100000 := by omega
 have ha0 : (0 : Int) ≤ a := by omega
 have haN : (a : Int) < n := by omega
 have hm0 : (0 : Int) ≤ m := by omega
 have hmN : (m : Int) < n := by omega
 have hbN : (b : Int) ≤ n := by omega
 go_enter Tryz.func105, Tryz.ntmps105
 have hmaI : ¬ (m : Int) - a = 1 := by omega
 have hmaB : ((m : Int) - a == 1) = false := by rw [beq_eq_false_iff_ne]; exact hmaI
 have hbmI : ¬ (b : Int) - m = 1 := by omega
 have hbmB : ((b : Int) - m == 1) = false := by rw [beq_eq_false_iff_ne]; exact hbmI
 have hab0 : (0 : Int) ≤ ((a : Int) + b) / 2 := by omega
 have hab1 : ((a : Int) + b) / 2 ≤ 100000 := by omega
 go_upto_region 25 with fail
 obtain ⟨d, hd⟩ : ∃ d : Nat, d = (a + b) / 2 := ⟨_, rfl⟩
 have hdI : ((a : Int) + b) / 2 = d := by omega
 simp only [hdI]
 have hd1 : a + 2 ≤ d := by omega
 have hd2 : d + 2 ≤ b := by omega
 have hd0 : (0 : Int) ≤ d := by omega
 have hdN : (d : Int) ≤ 100000 := by omega
 have HD := hide hd
 clear hdI hab0 hab1 hd
 have hmd : ¬ d < m := by rw [HD.out]; exact hmd0
 clear hmd0
 have hmdI : ¬ (d : Int) < m := by omega
 obtain ⟨s0, hs0⟩ : ∃ s0 : Nat, s0 = a := ⟨a, rfl⟩
 obtain ⟨p, hpp⟩ : ∃ p : Nat, p + 1 = d + m := ⟨d + m - 1, by omega⟩
 have hpI : (d : Int) + m - 1 = p := by omega
 have hp00 : (0 : Int) ≤ p := by omega
 have hp01 : (p : Int) ≤ 200000 := by omega
 have has0 : a ≤ s0 := by omega
 have hs0d : s0 ≤ m := by omega
 have HZ := hide (And.intro hs0 hpp)
 clear hpp
 go_upto_region 33 with fail
 try simp only [hpI]
 clear hpI
 go_loopw [20, 21] (fun v20 v21 wx => ∃ s r : Nat, v20 = .int .i64 s ∧ v21 = .int .i64 r ∧ s0 ≤ s ∧ s ≤ r ∧ r ≤ m ∧ Hid ((s = s0 ∨ ∃ x y, l[p - (s - 1)]? = some x ∧ l[s - 1]? = some y ∧ ltF x y = false) ∧ (r = m ∨ ∃ x y, l[p - r]? = some x ∧ l[r]? = some y ∧ ltF x y = true) ∧ Fw W g n c l wx)) (fun v20 v21 _ => (intOf v21).toNat - (intOf v20).toNat)
 case atStart => exact ⟨s0, m, by rw [hs0], rfl, Nat.le_refl _, hs0d, Nat.le_refl _, .inl rfl, .inl rfl, H0.out⟩
 case round =>
  clear H0
  obtain ⟨s, r, rfl, rfl, hi1, hi2, hi3, HI⟩ := hrel
  have hs0I : (0 : Int) ≤ s := by omega
  by_cases hlt : s < r
  ·have hltI : (s : Int) < r := by omega
   have hr0 : (0 : Int) ≤ ((s : Int) + r) / 2 := by omega
   have hr1 : ((s : Int) + r) / 2 ≤ 100000 := by omega
   have hdI9 : (r : Int) ≤ 100000 := by omega
   go_upto_region 35 with fail
   obtain ⟨c1, hc⟩ : ∃ c : Nat, c = (s + r) / 2 := ⟨_, rfl⟩
   have hccI : ((s : Int) + r) / 2 = c1 := by omega
   simp only [hccI]
   have HCI := hide (And.intro hccI hc)
   clear hr0 hr1 hccI hc
   have hzq := HZ.out.1
   have hpc : c1 ≤ p := by have := HCI.out.2; have := HZ.out.2; omega
   have hcle : s ≤ c1 ∧ c1 < r := by have := HCI.out.2; omega
   have hzz := HZ.out.2
   obtain ⟨q, hq⟩ : ∃ q, q = p - c1 := ⟨_, rfl⟩
   have hqn : q < n := by have := HD.out; omega
   obtain ⟨x, hx⟩ := hget.out q hqn
   have HXx := hide (HPl.out x (List.mem_of_getElem? hx))
   obtain ⟨y, hy⟩ := hget.out c1 (by omega)
   have HXy := hide (HPl.out y (List.mem_of_getElem? hy))
   have hc0 : (0 : Int) ≤ c1 := by omega
   have hc1 : (c1 : Int) < n := by omega
   have ht0 : (0 : Int) ≤ (p : Int) - c1 := by omega
   have ht1 : (p : Int) - c1 < n := by omega
   have htt : ((p : Int) - c1).toNat = q := by omega
   have HXY := hide (And.intro hx (And.intro hy hq))
   clear hx hy hzz hzq hpc hcle hq hqn
   obtain ⟨d9, hd9⟩ : ∃ d, d = cmpF x y := ⟨_, rfl⟩
   have HD9 := hide hd9
   clear hd9
   by_cases hdn : d9 < 0
   ·skip
    refine QuietCalls.region (by kernel_rfl) (by kernel_rfl) ?_
    iterate 6 (first | go_big_quiet_step (fail) | quiet_step (fail))
    refine QuietCalls.loadMid rfl 51 _ rfl g (q * 5) rfl x.cs _ (fun v k => rangeAt_below (HI.out.2.2.at HXY.out.1).1 (HI.out.2.2.at HXY.out.1).2 k) Tryz.underlying51 rfl infoFi5 ?_; simp only [Act.put, List.setIfInBounds_toArray, List.set_cons_succ, List.set_cons_zero]
    iterate 3 (first | go_big_quiet_step (fail) | quiet_step (fail))
    refine QuietCalls.loadMid rfl 51 _ rfl g (c1 * 5) rfl y.cs _ (fun v k => rangeAt_below (HI.out.2.2.at HXY.out.2.1).1 (HI.out.2.2.at HXY.out.2.1).2 k) Tryz.underlying51 rfl infoFi5 ?_; simp only [Act.put, List.setIfInBounds_toArray, List.set_cons_succ, List.set_cons_zero]
    refine QuietCalls.call rfl 17 #[.agg x.cs.toArray, .agg y.cs.toArray] (.int .i64 d9) (fun v _ => by rw [HD9.out]; exact HC.out x HXx.out y HXy.out v) (fun v => by go_simp) ?_; simp only [Act.put, List.setIfInBounds_toArray, List.set_cons_succ, List.set_cons_zero]
    iterate 2 (first | go_big_quiet_step (fail) | quiet_step (fail))
    refine wpQuiet_nil ?_
    intro w2 k2
    have HI2 : Hid ((s = s0 ∨ ∃ x y, l[p - (s - 1)]? = some x ∧ l[s - 1]? = some y ∧ ltF x y = false) ∧ (c1 = m ∨ ∃ x y, l[p - c1]? = some x ∧ l[c1]? = some y ∧ ltF x y = true) ∧ Fw W g n c l w2) := ⟨HI.out.1, .inr ⟨x, y, by rw [← HXY.out.2.2]; exact HXY.out.1, HXY.out.2.1, by unfold ltF; rw [← HD9.out]; exact decide_eq_true hdn⟩, HI.out.2.2.step k2⟩
    clear k2 HI
    go_wp2_with fail
    go_roundw
    case rel => exact ⟨s, c1, rfl, rfl, hi1, by have := HCI.out.2; omega, by have := HCI.out.2; omega, HI2.out⟩
    case measure => simp only [intOf]; have := HCI.out.2; omega
   ·skip
    refine QuietCalls.region (by kernel_rfl) (by kernel_rfl) ?_
    iterate 6 (first | go_big_quiet_step (fail) | quiet_step (fail))
    refine QuietCalls.loadMid rfl 51 _ rfl g (q * 5) rfl x.cs _ (fun v k => rangeAt_below (HI.out.2.2.at HXY.out.1).1 (HI.out.2.2.at HXY.out.1).2 k) Tryz.underlying51 rfl infoFi5 ?_; simp only [Act.put, List.setIfInBounds_toArray, List.set_cons_succ, List.set_cons_zero]
    iterate 3 (first | go_big_quiet_step (fail) | quiet_step (fail))
    refine QuietCalls.loadMid rfl 51 _ rfl g (c1 * 5) rfl y.cs _ (fun v k => rangeAt_below (HI.out.2.2.at HXY.out.2.1).1 (HI.out.2.2.at HXY.out.2.1).2 k) Tryz.underlying51 rfl infoFi5 ?_; simp only [Act.put, List.setIfInBounds_toArray, List.set_cons_succ, List.set_cons_zero]
    refine QuietCalls.call rfl 17 #[.agg x.cs.toArray, .agg y.cs.toArray] (.int .i64 d9) (fun v _ => by rw [HD9.out]; exact HC.out x HXx.out y HXy.out v) (fun v => by go_simp) ?_; simp only [Act.put, List.setIfInBounds_toArray, List.set_cons_succ, List.set_cons_zero]
    iterate 2 (first | go_big_quiet_step (fail) | quiet_step (fail))
    refine wpQuiet_nil ?_
    intro w2 k2
    have HI2 : Hid ((c1 + 1 = s0 ∨ ∃ x y, l[p - (c1 + 1 - 1)]? = some x ∧ l[c1 + 1 - 1]? = some y ∧ ltF x y = false) ∧ (r = m ∨ ∃ x y, l[p - r]? = some x ∧ l[r]? = some y ∧ ltF x y = true) ∧ Fw W g n c l w2) := ⟨.inr ⟨x, y, by rw [Nat.add_sub_cancel, ← HXY.out.2.2]; exact HXY.out.1, HXY.out.2.1, by unfold ltF; rw [← HD9.out]; exact decide_eq_false hdn⟩, HI.out.2.1, HI.out.2.2.step k2⟩
    clear k2 HI
    go_wp2_with fail
    go_roundw
    case rel => exact ⟨c1 + 1, r, by congr 1 <;> omega, rfl, by have := HCI.out.2; omega, by have := HCI.out.2; omega, hi3, HI2.out⟩
    case measure => simp only [intOf]; have := HCI.out.2; omega
  ·obtain rfl : s = r := by omega
   have hltI : ¬ (s : Int) < s := by omega
   obtain ⟨f, hf⟩ : ∃ f : Nat, f + s = d + m := ⟨d + m - s, by omega⟩
   have hfI : (d : Int) + m - s = f := by omega
   have hmf : m ≤ f := by omega
   have hfb : f ≤ b := by have := HD.out; have := HZ.out.1; omega
   have hsm : s ≤ m := by omega
   have hsd : s ≤ d := by omega
   have has : a ≤ s := by omega
   have hX := HE.out.2.1
   have hLl : m = a + L.length := HE.out.2.2.1
   have hRl : b = m + R.length := HE.out.2.2.2
   obtain ⟨L1, L2, hL, hL1l⟩ := cut_at (l := L) (n := s - a) (by omega)
   obtain ⟨R1, R2, hR, hR1l⟩ := cut_at (l := R) (n := f - m) (by omega)
   have hL12 := len_cut hL
   have hR12 := len_cut hR
   have hp9 := HZ.out.2
   have hz9 := HZ.out.1
   have hE0 : l = X ++ (L1 ++ (L2 ++ (R1 ++ (R2 ++ Z)))) := by rw [HE.out.1, hL, hR]; simp only [List.append_assoc]
   have hcr : ∀ u ∈ L1 ++ R1, ∀ v ∈ L2 ++ R2, ltF v u = false := by
    refine cross swoF (l := l) (X := X) (Z := Z) (s := s) (f := f) hE0 (by rw [← hL]; exact HS.out.1) (by rw [← hR]; exact HS.out.2) (by omega) (by omega) ?_ ?_
    ·rcases HI.out.1 with h | ⟨x, y, h1, h2, h3⟩
     ·left; exact List.length_eq_zero_iff.1 (by omega)
     ·by_cases h0 : s = 0
      ·left; exact List.length_eq_zero_iff.1 (by omega)
      ·rw [show p - (s - 1) = f by omega] at h1
       exact .inr (.inr ⟨y, x, h2, h1, h3⟩)
    ·rcases HI.out.2.1 with h | ⟨x, y, h1, h2, h3⟩
     ·left; exact List.length_eq_zero_iff.1 (by omega)
     ·rw [show p - s = f - 1 by omega] at h1
      exact .inr (.inr ⟨y, x, h2, h1, h3⟩)
   have hsL1 : Sd ltF L1 ∧ Sd ltF L2 := by have := HS.out.1; rw [hL] at this; exact ⟨(List.pairwise_append.1 this).1, (List.pairwise_append.1 this).2.1⟩
   have hsR1 : Sd ltF R1 ∧ Sd ltF R2 := by have := HS.out.2; rw [hR] at this; exact ⟨(List.pairwise_append.1 this).1, (List.pairwise_append.1 this).2.1⟩
   have hW0 : Fw W g n c (X ++ (L1 ++ (L2 ++ (R1 ++ (R2 ++ Z))))) wr := by rw [← hE0]; exact HI.out.2.2
   have hq : ∀ x, (x ∈ X ∨ x ∈ L1 ∨ x ∈ L2 ∨ x ∈ R1 ∨ x ∈ R2 ∨ x ∈ Z) → x.path.length ≤ 1000 := by
    intro x hx
    refine HPp.out x ?_
    rw [hL, hR]
    simp only [List.mem_append]
    rcases hx with h | h | h | h | h | h
    ·exact .inl h
    ·exact .inr (.inl (.inl h))
    ·exact .inr (.inl (.inr h))
    ·exact .inr (.inr (.inl (.inl h)))
    ·exact .inr (.inr (.inl (.inr h)))
    ·exact .inr (.inr (.inr h))
   obtain ⟨S1, S2, hT⟩ := merge_tail hn k X L L1 L2 R R1 R2 Z a m b s d f wr hL hR hW0 hq hcr hsL1 hsR1 ⟨by omega, by omega⟩ ⟨hX, by omega, by omega, by omega, by omega, hf, by omega⟩ HIH.out
   have HT := hide hT
   clear hT hcr hsL1 hsR1 hq hL hR hE0 hW0 hL1l hR1l hL12 hR12 hX hLl hRl HI hp9 hz9 HIH HPl HPp HS HC HE hget
   go_upto_region 39 with fail
   try simp only [hfI]
   clear hfI
   by_cases p0 : s < m
   ·by_cases p2 : a < s
    ·by_cases p3 : f < b
     ·have i1 : (s : Int) < m := by omega
      have i2 : (m : Int) < f := by omega
      have i3 : (a : Int) < s := by omega
      have i4 : (s : Int) < d := by omega
      have i5 : (d : Int) < f := by omega
      have i6 : (f : Int) < b := by omega
      have hc1 : (s < m ∧ m < f) := by omega
      have hc2 : (a < s ∧ s < d) := by omega
      have hc3 : (d < f ∧ f < b) := by omega
      have HL := hide (HT.out.1 hc1)
      clear hf
      go_wp2_with (first | (go_at_call 126; refine HL.out.mono ?_; rintro r w5 ⟨rfl, k5⟩; have H1 := hide k5; clear k5 HL; have HM := hide (HT.out.2.2.1 w5 H1.out hc2)) | (go_at_call 105; refine HM.out.mono ?_; rintro r w6 ⟨rfl, k6⟩; have H2 := hide k6; clear k6 HM; have HN := hide (HT.out.2.2.2.2.1 w6 H2.out hc3)) | (go_at_call 105; refine HN.out.mono ?_; rintro r w7 ⟨rfl, k7⟩; have H3 := hide k7; clear k7 HN))
      go_end0
      exact ⟨rfl, H3.out⟩
     ·have i1 : (s : Int) < m := by omega
      have i2 : (m : Int) < f := by omega
      have i3 : (a : Int) < s := by omega
      have i4 : (s : Int) < d := by omega
      have i5 : (d : Int) < f := by omega
      have i6 : ¬ (f : Int) < b := by omega
      have hc1 : (s < m ∧ m < f) := by omega
      have hc2 : (a < s ∧ s < d) := by omega
      have hc3 : ¬ (d < f ∧ f < b) := by omega
      have HL := hide (HT.out.1 hc1)
      clear hf
      go_wp2_with (first | (go_at_call 126; refine HL.out.mono ?_; rintro r w5 ⟨rfl, k5⟩; have H1 := hide k5; clear k5 HL; have HM := hide (HT.out.2.2.1 w5 H1.out hc2)) | (go_at_call 105; refine HM.out.mono ?_; rintro r w6 ⟨rfl, k6⟩; have H2 := hide k6; clear k6 HM; have H3 := hide (HT.out.2.2.2.2.2 w6 H2.out hc3)))
      go_end0
      exact ⟨rfl, H3.out⟩
    ·by_cases p3 : f < b
     ·have i1 : (s : Int) < m := by omega
      have i2 : (m : Int) < f := by omega
      have i3 : ¬ (a : Int) < s := by omega
      have i4 : (s : Int) < d := by omega
      have i5 : (d : Int) < f := by omega
      have i6 : (f : Int) < b := by omega
      have hc1 : (s < m ∧ m < f) := by omega
      have hc2 : ¬ (a < s ∧ s < d) := by omega
      have hc3 : (d < f ∧ f < b) := by omega
      have HL := hide (HT.out.1 hc1)
      clear hf
      go_wp2_with (first | (go_at_call 126; refine HL.out.mono ?_; rintro r w5 ⟨rfl, k5⟩; have H1 := hide k5; clear k5 HL; have H2 := hide (HT.out.2.2.2.1 w5 H1.out hc2); have HN := hide (HT.out.2.2.2.2.1 w5 H2.out hc3)) | (go_at_call 105; refine HN.out.mono ?_; rintro r w7 ⟨rfl, k7⟩; have H3 := hide k7; clear k7 HN))
      go_end0
      exact ⟨rfl, H3.out⟩
     ·have i1 : (s : Int) < m := by omega
      have i2 : (m : Int) < f := by omega
      have i3 : ¬ (a : Int) < s := by omega
      have i4 : (s : Int) < d := by omega
      have i5 : (d : Int) < f := by omega
      have i6 : ¬ (f : Int) < b := by omega
      have hc1 : (s < m ∧ m < f) := by omega
      have hc2 : ¬ (a < s ∧ s < d) := by omega
      have hc3 : ¬ (d < f ∧ f < b) := by omega
      have HL := hide (HT.out.1 hc1)
      clear hf
      go_wp2_with (go_at_call 126; refine HL.out.mono ?_; rintro r w5 ⟨rfl, k5⟩; have H1 := hide k5; clear k5 HL; have H2 := hide (HT.out.2.2.2.1 w5 H1.out hc2); have H3 := hide (HT.out.2.2.2.2.2 w5 H2.out hc3))
      go_end0
      exact ⟨rfl, H3.out⟩
   ·by_cases p1 : s < d
    ·by_cases p2 : a < s
     ·have i1 : ¬ (s : Int) < m := by omega
      have i2 : (m : Int) < f := by omega
      have i3 : (a : Int) < s := by omega
      have i4 : (s : Int) < d := by omega
      have i5 : ¬ (d : Int) < f := by omega
      have hc1 : ¬ (s < m ∧ m < f) := by omega
      have hc2 : (a < s ∧ s < d) := by omega
      have hc3 : ¬ (d < f ∧ f < b) := by omega
      have H1 := hide (HT.out.2.1 hc1)
      have HM := hide (HT.out.2.2.1 wr H1.out hc2)
      clear hf
      go_wp2_with (go_at_call 105; refine HM.out.mono ?_; rintro r w6 ⟨rfl, k6⟩; have H2 := hide k6; clear k6 HM; have H3 := hide (HT.out.2.2.2.2.2 w6 H2.out hc3))
      go_end0
      exact ⟨rfl, H3.out⟩
     ·have i1 : ¬ (s : Int) < m := by omega
      have i2 : (m : Int) < f := by omega
      have i3 : ¬ (a : Int) < s := by omega
      have i4 : (s : Int) < d := by omega
      have i5 : ¬ (d : Int) < f := by omega
      have hc1 : ¬ (s < m ∧ m < f) := by omega
      have hc2 : ¬ (a < s ∧ s < d) := by omega
      have hc3 : ¬ (d < f ∧ f < b) := by omega
      have H1 := hide (HT.out.2.1 hc1)
      have H2 := hide (HT.out.2.2.2.1 wr H1.out hc2)
      have H3 := hide (HT.out.2.2.2.2.2 wr H2.out hc3)
      clear hf
      go_wp2_with fail
      go_end0
      exact ⟨rfl, H3.out⟩
    ·by_cases p2 : a < s
     ·have i1 : ¬ (s : Int) < m := by omega
      have i2 : ¬ (m : Int) < f := by omega
      have i3 : (a : Int) < s := by omega
      have i4 : ¬ (s : Int) < d := by omega
      have i5 : ¬ (d : Int) < f := by omega
      have hc1 : ¬ (s < m ∧ m < f) := by omega
      have hc2 : ¬ (a < s ∧ s < d) := by omega
      have hc3 : ¬ (d < f ∧ f < b) := by omega
      have H1 := hide (HT.out.2.1 hc1)
      have H2 := hide (HT.out.2.2.2.1 wr H1.out hc2)
      have H3 := hide (HT.out.2.2.2.2.2 wr H2.out hc3)
      clear hf
      go_wp2_with fail
      go_end0
      exact ⟨rfl, H3.out⟩
     ·have i1 : ¬ (s : Int) < m := by omega
      have i2 : ¬ (m : Int) < f := by omega
      have i3 : ¬ (a : Int) < s := by omega
      have i4 : ¬ (s : Int) < d := by omega
      have i5 : ¬ (d : Int) < f := by omega
      have hc1 : ¬ (s < m ∧ m < f) := by omega
      have hc2 : ¬ (a < s ∧ s < d) := by omega
      have hc3 : ¬ (d < f ∧ f < b) := by omega
      have H1 := hide (HT.out.2.1 hc1)
      have H2 := hide (HT.out.2.2.2.1 wr H1.out hc2)
      have H3 := hide (HT.out.2.2.2.2.2 wr H2.out hc3)
      clear hf
      go_wp2_with fail
      go_end0
      exact ⟨rfl, H3.out⟩
end Go.Proofs.YtnbhchdaobimmaaGreatDoor
/- Contract: slices' symMerge of files: two runs in order, beside one another, are put together in order. Laid by tools/mkmerge.py. -/
namespace Go.Proofs.YtnbhchdaobimmaaGreatDoor
open Go.RowKit Go.Img Go.Pln Go.Shelf Go.Rws Go.Stb
attribute [local go_sem] Oper.semAt_some
theorem symm_any {W : World} {g n c : Nat} (hn : n ≤ 100000) : ∀ (k : Nat) (X L R Z : List Fi) (a m b : Nat) (w : World), Fw W g n c (X ++ (L ++ (R ++ Z))) w → (∀ f, f ∈ X ∨ f ∈ L ∨ f ∈ R ∨ f ∈ Z → f.path.length ≤ 1000) → a = X.length → m = a + L.length → b = m + R.length → 1 ≤ L.length → 1 ≤ R.length → Sd ltF L → Sd ltF R → b ≤ a + k → Symm W g n c X L R Z a m b w := by
 intro k
 induction k with
 | zero => intro X L R Z a m b w _ _ _ h1 h2 h3 h4 _ _ h5; omega
 | succ k ih =>
  intro X L R Z a m b w hw hp ha hm hb hL1 hR1 hsL hsR hbk
  by_cases hma : m - a = 1
  ·exact symmA hn k X L R Z a m b w hw hp ha hm hb hL1 hR1 hsL hsR hbk hma
  ·by_cases hbm : b - m = 1
   ·exact symmB hn k X L R Z a m b w hw hp ha hm hb hL1 hR1 hsL hsR hbk hma hbm
   ·by_cases hmd : (a + b) / 2 < m
    ·exact symmC hn k X L R Z a m b w hw hp ha hm hb hL1 hR1 hsL hsR hbk ih hma hbm hmd
    ·exact symmD hn k X L R Z a m b w hw hp ha hm hb hL1 hR1 hsL hsR hbk ih hma hbm hmd
end Go.Proofs.YtnbhchdaobimmaaGreatDoor
/- Contract: slices.SortStableFunc of files: they come to stand in order (which of two that compare as the same stands first is not told). -/
namespace Go.Proofs.YtnbhchdaobimmaaGreatDoor
open Go.RowKit Go.Img Go.Pln Go.Shelf Go.Rws Go.Stb
attribute [local go_sem] Oper.semAt_some
theorem paths_perm {l m : List Fi} (h : m.Perm l) (hp : ∀ f ∈ l, f.path.length ≤ 1000) : ∀ f ∈ m, f.path.length ≤ 1000 := fun f hf => hp f (h.mem_iff.1 hf)
set_option maxHeartbeats 8000000 in
set_option maxRecDepth 100000 in
theorem stableG_any {W : World} {g n c : Nat} (l : List Fi) (w : World) (h : Fw W g n c l w) (hp : ∀ f ∈ l, f.path.length ≤ 1000) (hn : n ≤ 100000) :
  Calls Tryz.prog 72 #[.slice (some ⟨g, 0, none⟩) n c, .int .i64 n, .func (.func 17) #[] #[]] w fun e w' => e = .returned (.tuple #[]) ∧ ∃ l', l'.Perm l ∧ Sd ltF l' ∧ Fw W g n c l' w' := by
 have H0 := hide h
 have HP := hide hp
 have HLn : Hid (n = l.length) := h.len
 have HIn := hide (fun (a b : Nat) (X D Z : List Fi) (w : World) (h : Fw W g n c (X ++ D ++ Z) w) (ha : a = X.length) (hb : b = X.length + D.length) (hp : ∀ f ∈ X ++ D ++ Z, f.path.length ≤ 1000) => insG_any w h ha hb hp hn)
 have HSy := hide (fun (X L R Z : List Fi) (a m b : Nat) (w : World) (h : Fw W g n c (X ++ (L ++ (R ++ Z))) w) (hp : ∀ f, f ∈ X ∨ f ∈ L ∨ f ∈ R ∨ f ∈ Z → f.path.length ≤ 1000) (ha : a = X.length) (hm : m = a + L.length) (hb : b = m + R.length) (h1 : 1 ≤ L.length) (h2 : 1 ≤ R.length) (s1 : Sd ltF L) (s2 : Sd ltF R) => symm_any hn b X L R Z a m b w h hp ha hm hb h1 h2 s1 s2 (Nat.le_add_left _ _))
 clear h hp
 have hnI : (n : Int) ≤ 100000 := by omega
 go_enter Tryz.func72, Tryz.ntmps72
 go_wp2_with fail
 go_loopw [7, 8] (fun v7 v8 wx => ∃ a : Nat, v7 = .int .i64 a ∧ v8 = .int .i64 (a + 20 : Nat) ∧ a ≤ n ∧ Hid (∃ D T, D.length = a ∧ Pre ltF 20 D ∧ (D ++ T).Perm l ∧ Fw W g n c (D ++ T) wx)) (fun v7 _ _ => n - (intOf v7).toNat)
 case atStart => exact ⟨0, rfl, rfl, Nat.zero_le _, [], l, rfl, Pre.nil, List.Perm.refl _, H0.out⟩
 case round =>
  clear H0
  obtain ⟨a, rfl, rfl, ha, HI⟩ := hrel
  have ha0 : (0 : Int) ≤ a := by omega
  have haI : (a : Int) ≤ 100000 := by omega
  by_cases hlt : a + 20 ≤ n
  ·have hltI : (a : Int) + 20 ≤ n := by omega
   obtain ⟨D, T, h1, h2, h3, h4⟩ := HI.out
   have hT : D.length + T.length = n := by have := h3.length_eq; rw [List.length_append] at this; have := HLn.out; omega
   obtain ⟨A, B, hAB, hA⟩ := cut_at (l := T) (n := 20) (by omega)
   subst hAB
   rw [← List.append_assoc] at h3 h4
   have HJ := hide (HIn.out a (a + 20) D A B wr h4 h1.symm (by omega) (paths_perm h3 HP.out))
   have HQ := hide (And.intro h1 (And.intro h2 (And.intro h3 hA)))
   clear h1 h2 h3 h4 hT hA HI
   go_wp2_with (go_at_call 89; refine HJ.out.mono ?_; rintro r w5 ⟨rfl, k5⟩; have K5 := hide k5; clear k5 HJ)
   go_roundw
   case rel =>
    refine ⟨a + 20, by simp, by simp, hlt, ?_⟩
    obtain ⟨M, h5, h6, h7⟩ := K5.out
    obtain ⟨h1, h2, h3, hA⟩ := HQ.out
    have hM := h5.length_eq
    refine ⟨D ++ M, B, by rw [List.length_append]; omega, h2.snoc (by omega) h6, ?_, h7⟩
    exact ((List.Perm.append_left D h5).append_right B).trans h3
   case measure => simp [intOf]; omega
  ·have hltI : ¬ (a : Int) + 20 ≤ n := by omega
   obtain ⟨D, T, h1, h2, h3, h4⟩ := HI.out
   have hT : D.length + T.length = n := by have := h3.length_eq; rw [List.length_append] at this; have := HLn.out; omega
   have HJ := hide (HIn.out a n D T [] wr (by rw [List.append_nil]; exact h4) h1.symm (by omega) (by rw [List.append_nil]; exact paths_perm h3 HP.out))
   have HQ := hide (And.intro h1 (And.intro h2 (And.intro h3 hT)))
   clear h1 h2 h3 h4 hT HI
   go_wp2_with (go_at_call 89; refine HJ.out.mono ?_; rintro r w5 ⟨rfl, k5⟩; have K5 := hide k5; clear k5 HJ)
   have H1 : Hid (∃ m, m.Perm l ∧ Runs ltF 20 m ∧ Fw W g n c m w5) := by
    obtain ⟨M, h5, h6, h7⟩ := K5.out
    obtain ⟨h1, h2, h3, hT⟩ := HQ.out
    have hM := h5.length_eq
    rw [List.append_nil] at h7
    exact ⟨D ++ M, (List.Perm.append_left D h5).trans h3, h2 M (.short (by omega) h6), h7⟩
   clear HIn K5 HQ
   go_loopw [6, 7, 8, 9] (fun v6 v7 v8 v9 wx => ∃ s : Nat, v6 = .int .i64 s ∧ 1 ≤ s ∧ s ≤ 300000 ∧ Hid (∃ m, m.Perm l ∧ Runs ltF s m ∧ Fw W g n c m wx)) (fun v6 _ _ _ _ => 300000 - (intOf v6).toNat)
   case atStart => exact ⟨20, rfl, by decide, by decide, H1.out⟩
   case round =>
    clear H1
    obtain ⟨s, rfl, hs1, hs2, HI⟩ := hrel
    have hs0 : (0 : Int) ≤ s := by omega
    by_cases hsn : s < n
    ·have hsnI : (s : Int) < n := by omega
     have hsI : (s : Int) ≤ 100000 := by omega
     have HI0 : Hid (∃ D T, D.length = 0 ∧ Pre ltF (s + s) D ∧ Runs ltF s T ∧ (D ++ T).Perm l ∧ Fw W g n c (D ++ T) wr) := by
      obtain ⟨m, h1, h2, h3⟩ := HI.out
      exact ⟨[], m, rfl, Pre.nil, h2, h1, h3⟩
     clear HI
     go_wp2_with fail
     go_loopw [7, 8] (fun v7 v8 wx => ∃ a : Nat, v7 = .int .i64 a ∧ v8 = .int .i64 (a + 2 * s : Nat) ∧ a ≤ n ∧ Hid (∃ D T, D.length = a ∧ Pre ltF (s + s) D ∧ Runs ltF s T ∧ (D ++ T).Perm l ∧ Fw W g n c (D ++ T) wx)) (fun v7 _ _ => n - (intOf v7).toNat)
     case atStart => exact ⟨0, rfl, by congr 1; omega, Nat.zero_le _, HI0.out⟩
     case round =>
      clear HI0
      obtain ⟨a, rfl, rfl, ha, HI⟩ := hrel
      have ha0 : (0 : Int) ≤ a := by omega
      have haI : (a : Int) ≤ 100000 := by omega
      obtain ⟨D, T, h1, h2, h3, h4, h5⟩ := HI.out
      have hT : D.length + T.length = n := by have := h4.length_eq; rw [List.length_append] at this; have := HLn.out; omega
      have hpp := paths_perm h4 HP.out
      clear HI
      by_cases hlt : a + 2 * s ≤ n
      ·have hltI : (a : Int) + 2 * s ≤ n := by omega
       obtain ⟨A, B, C, hABC, hA, hB, sA, sB, hC⟩ := h3.two (by omega) (by omega)
       subst hABC
       have HJ := hide (HSy.out D A B C a (a + s) (a + 2 * s) wr h5 (fun x hx => hpp x (by simp only [List.mem_append]; exact hx)) h1.symm (by omega) (by omega) (by omega) (by omega) sA sB)
       have e1 : ((a + s : Nat) : Int) = (a : Int) + s := by omega
       have e2 : ((a + 2 * s : Nat) : Int) = (a : Int) + 2 * s := by omega
       unfold Symm at HJ
       rw [e1, e2] at HJ
       simp only [e2]
       have HQ := hide (And.intro h1 (And.intro h2 (And.intro h4 (And.intro hA (And.intro hB hC)))))
       clear e1 e2 h1 h2 h3 h4 h5 hT hpp hA hB sA sB hC
       go_wp2_with (go_at_call 105; refine HJ.out.mono ?_; rintro r w5 ⟨rfl, k5⟩; have K5 := hide k5; clear k5 HJ)
       go_roundw
       case rel =>
        refine ⟨a + 2 * s, rfl, by congr 1 <;> omega, hlt, ?_⟩
        obtain ⟨M, h5, h6, h7⟩ := K5.out
        obtain ⟨h1, h2, h4, hA, hB, hC⟩ := HQ.out
        have hM := h5.length_eq
        rw [List.length_append] at hM
        refine ⟨D ++ M, C, by rw [List.length_append]; omega, h2.snoc (by omega) h6, hC, ?_, by rw [List.append_assoc]; exact h7⟩
        rw [List.append_assoc]
        refine List.Perm.trans (List.Perm.append_left D ?_) h4
        rw [← List.append_assoc A B C]
        exact h5.append_right C
       case measure => simp [intOf]; omega
      ·have hltI : ¬ (a : Int) + 2 * s ≤ n := by omega
       have e2 : ((a + 2 * s : Nat) : Int) = (a : Int) + 2 * s := by omega
       simp only [e2]
       clear e2
       by_cases hm : a + s < n
       ·have hmI : (a : Int) + s < n := by omega
        obtain ⟨A, B, hAB, hA, sA, sB⟩ := h3.one (by omega) (by omega)
        have hABl := len_cut hAB
        have HJ := hide (HSy.out D A B [] a (a + s) n wr (by rw [List.append_nil, ← hAB]; exact h5) (fun x hx => hpp x (by rw [hAB]; simp only [List.mem_append]; simpa using hx)) h1.symm (by omega) (by omega) (by omega) (by omega) sA sB)
        have e1 : ((a + s : Nat) : Int) = (a : Int) + s := by omega
        unfold Symm at HJ
        rw [e1] at HJ
        have HQ := hide (And.intro h1 (And.intro h2 (And.intro h4 (And.intro hAB hT))))
        clear e1 h1 h2 h3 h4 h5 hT hpp hAB hA sA sB hABl
        go_wp2_with (go_at_call 105; refine HJ.out.mono ?_; rintro r w5 ⟨rfl, k5⟩; have K5 := hide k5; clear k5 HJ)
        go_roundw
        case rel =>
         refine ⟨s * 2, by congr 1 <;> omega, by omega, by omega, ?_⟩
         obtain ⟨M, h5, h6, h7⟩ := K5.out
         obtain ⟨h1, h2, h4, hAB, hT⟩ := HQ.out
         have hM := h5.length_eq
         rw [List.append_nil] at h7
         rw [← hAB] at h5 hM
         refine ⟨D ++ M, (List.Perm.append_left D h5).trans h4, ?_, h7⟩
         rw [show s * 2 = s + s by omega]
         exact h2 M (.short (by omega) h6)
        case measure => simp [intOf]; omega
       ·have hmI : ¬ (a : Int) + s < n := by omega
        have HQ : Hid (∃ m, m.Perm l ∧ Runs ltF (s * 2) m ∧ Fw W g n c m wr) := by
         refine ⟨D ++ T, h4, ?_, h5⟩
         rw [show s * 2 = s + s by omega]
         exact h2 T (.short (by omega) (h3.sorted (by omega)))
        clear h1 h2 h3 h4 h5 hT hpp
        go_wp2_with fail
        go_roundw
        case rel => exact ⟨s * 2, by congr 1 <;> omega, by omega, by omega, HQ.out⟩
        case measure => simp [intOf]; omega
    ·have hsnI : ¬ (s : Int) < n := by omega
     go_wp2_with fail
     go_end0
     obtain ⟨m, h1, h2, h3⟩ := HI.out
     exact ⟨rfl, m, h1, h2.sorted (by rw [← h3.len]; omega), h3⟩
theorem ins_nil (u : Value) (w : World) :
  Calls Tryz.prog 89 #[u, .int .i64 0, .int .i64 0, .func (.func 17) #[] #[]] w fun e w' => e = .returned (.tuple #[]) ∧ w' = w := by
 go_enter Tryz.func89, Tryz.ntmps89
 go_wp2
 refine wp_loop_rounds 1 ?_
 rw [rounds_succ]
 go_wp2
 go_end0
 exact ⟨rfl, rfl⟩
theorem stable_nil (u : Value) (w : World) :
  Calls Tryz.prog 72 #[u, .int .i64 0, .func (.func 17) #[] #[]] w fun e w' => e = .returned (.tuple #[]) ∧ w' = w := by
 have HI := hide (ins_nil u w)
 go_enter Tryz.func72, Tryz.ntmps72
 go_wp2
 refine wp_loop_rounds 1 ?_
 rw [rounds_succ]
 go_wp2_with (go_at_call 89; refine HI.out.mono ?_; rintro r w5 ⟨rfl, rfl⟩)
 refine wp_loop_rounds 1 ?_
 rw [rounds_succ]
 go_wp2
 go_end0
 exact ⟨rfl, rfl⟩
set_option maxRecDepth 100000 in
theorem stabG_any {W : World} (l : List Fi) (u : Value) (w : World) (h : OwnR Fi.cs 5 51 W u l w) (hp : ∀ f ∈ l, f.path.length ≤ 1000) (hn : l.length ≤ 100000) :
  Calls Tryz.prog 40 #[u, .func (.func 17) #[] #[]] w fun e w' => e = .returned (.tuple #[]) ∧ ∃ l', l'.Perm l ∧ Srt l' ∧ OwnR Fi.cs 5 51 W u l' w' := by
 by_cases h0 : l = []
 ·subst h0
  obtain ⟨a, c, hf⟩ := h.form
  rw [List.length_nil] at hf
  have HJ := hide (stable_nil u w)
  subst hf
  go_enter Tryz.func40, Tryz.ntmps40
  go_wp2_with (go_at_call 72; refine HJ.out.mono ?_; rintro r w5 ⟨rfl, rfl⟩)
  go_end0
  exact ⟨rfl, [], List.Perm.refl _, List.Pairwise.nil, h⟩
 ·obtain ⟨g, c, rfl⟩ : ∃ g c, u = .slice (some ⟨g, 0, none⟩) l.length c := by
   rcases h.own.2 with ⟨rfl, h1⟩ | ⟨j, cap, cur, rfl, _⟩
   ·exact absurd (List.length_eq_zero_iff.1 h1) h0
   ·exact ⟨_, _, rfl⟩
  have HJ := hide (stableG_any l w h hp hn)
  obtain ⟨N, hN⟩ : ∃ N, N = l.length := ⟨_, rfl⟩
  rw [← hN] at HJ ⊢
  clear h hp hn h0 hN
  go_enter Tryz.func40, Tryz.ntmps40
  go_wp2_with (go_at_call 72; refine HJ.out.mono ?_; rintro r w5 ⟨rfl, k5⟩; have K5 := hide k5; clear k5 HJ)
  go_end0
  exact ⟨rfl, K5.out⟩
end Go.Proofs.YtnbhchdaobimmaaGreatDoor
/- Contract: a list of files of its own, in order: of what stands in order already, each path once. -/
namespace Go.Pln
open Go.RowKit Go.Img
/-- In order, each path once. -/
def FilesOnce (l : List Fi) : Prop := Srt l ∧ ∀ x ∈ l, ∀ y ∈ l, x.path = y.path → x = y
end Go.Pln
namespace Go.Proofs.YtnbhchdaobimmaaGreatDoor
open Go.RowKit Go.Img Go.Pln Go.Shelf Go.Rws
attribute [local go_sem] Oper.semAt_some
set_option maxHeartbeats 4000000 in
set_option maxRecDepth 100000 in
theorem ordered_any (l : List Fi) (u : Value) (w : World) (hl : RowsAt Fi.cs 5 w u l) (hN : Nice u) (hs : FilesOnce l) (hp : ∀ f ∈ l, f.path.length ≤ 1000) (hn : l.length ≤ 50000) :
  Calls Tryz.prog 29 #[u] w fun e w' => ∃ v, e = .returned v ∧ OwnR Fi.cs 5 51 w v l w' := by
 have HC := hide (cloneFi_any l u w hl hN hn)
 have HS := hide (And.intro hs hp)
 clear hl hN hs hp
 go_enter Tryz.func29, Tryz.ntmps29
 go_wp2_with (first
  | (go_at_call 36; refine HC.out.mono ?_; rintro r w1 ⟨v, rfl, ho⟩; have HJ := hide (stabG_any l v w1 ho HS.out.2 (by omega)); clear ho HC)
  | (go_at_call 40; refine HJ.out.mono ?_; rintro r w5 ⟨rfl, l', h1, h2, h3⟩; have K5 := hide (And.intro h1 (And.intro h2 h3)); clear h1 h2 h3 HJ))
 refine bodyPost_ret (results_tmp Tryz.results29 _ _ _) rfl ?_
 obtain ⟨h1, h2, h3⟩ := K5.out
 have e : l' = l := srt_one h2 HS.out.1.1 h1 fun a ha b hb e => HS.out.1.2 a (h1.mem_iff.1 ha) b (h1.mem_iff.1 hb) e
 rw [e] at h3
 exact ⟨_, rfl, h3⟩
end Go.Proofs.YtnbhchdaobimmaaGreatDoor
/- Contract: files gone over from their end, each with a fact that all have. -/
namespace Go.Proofs.YtnbhchdaobimmaaGreatDoor
open Go.RowKit Go.Img Go.Pln Go.Shelf Go.Rws
attribute [local go_sem] Oper.semAt_some
abbrev Bf (p : Fi → Prop) := { x : Nat × Fi // p x.2 }
set_option maxHeartbeats 4000000 in
set_option maxRecDepth 100000 in
theorem backF_of {a : Option Addr} {c : Nat} (p : Fi → Prop) (ss : List Fi) (hp : ∀ s ∈ ss, p s) (bx g m : Nat) (w0 : World) (hb : w0.cell? ⟨bx, 0, none⟩ = some (.slice a ss.length c)) (hg : ∀ x, a = some x → x.block = g) (hR : RowsAt Fi.cs 5 w0 (.slice a ss.length c) ss) (hn : ss.length ≤ 1000000) :
  SeqStopsK Fence.wide m Tryz.prog 63 #[.pointer (some ⟨bx, 0, none⟩)] (fun x : Bf p => #[.int .i64 x.1.1, .agg x.1.2.cs.toArray]) (KpB bx g) (fun xs => xs.map (·.1.2) = ss.reverse) (fun _ => True) ss.length w0 := by
 intro l J Jx W hW hJ hJx hY h0
 refine callsIn_of_wp Tryz.func63 rfl trivial ?_ rfl
 simp only [Tryz.ntmps63, List.size_toArray, List.length_cons, List.length_nil, Nat.reduceAdd, Nat.reduceSub, Array.replicate_succ, Array.replicate_zero, List.push_toArray, List.append_toArray, List.nil_append, List.cons_append]
 have hbW : W.cell? ⟨bx, 0, none⟩ = some (.slice a ss.length c) := (hW.cell (p := ⟨bx, 0, none⟩) (cell_lt hb)).trans hb
 have HY := hide hY
 have H0 := hide (And.intro h0 (And.intro hbW (hR.below hW)))
 have HG := hide hg
 clear hY h0 hW hJ hJx hg hb hR
 gi_wp2_with fail
 gi_loopw [3] (fun vs wr => ∃ (k : Nat) (pre : List (Bf p)), vs = .int .i64 ((k : Int) - 1) ∧ k ≤ ss.length ∧ Hid (pre.map (·.1.2) = (ss.drop k).reverse ∧ J pre wr ∧ wr.cell? ⟨bx, 0, none⟩ = some (.slice a ss.length c) ∧ RowsAt Fi.cs 5 wr (.slice a ss.length c) ss)) (fun vs _ => (intOf vs + 1).toNat)
 case atStart => exact ⟨ss.length, [], rfl, Nat.le_refl _, by simp, H0.out⟩
 case round =>
  obtain ⟨k, pre, rfl, hk, HP⟩ := hrel
  clear H0
  cases k with
  | zero =>
   gi_wp2_with fail
   go_end0
   refine ⟨⟨_, rfl⟩, .inl ⟨pre, ?_, HP.out.2.1⟩⟩
   have := HP.out.1
   simpa using this
  | succ k =>
   have hlen : pre.length = ss.length - (k + 1) := by have := congrArg List.length HP.out.1; simpa using this
   obtain ⟨s, hs⟩ : ∃ s, ss[k]? = some s := ⟨_, List.getElem?_eq_getElem (by omega)⟩
   have hps : p s := hp s (List.mem_of_getElem? hs)
   obtain ⟨gg, off, ha, _, hcap, hgl, hrg⟩ := HP.out.2.2.2.at (fun e => by rw [e] at hk; simp at hk)
   obtain ⟨fn, tmps, assign, body, hy, hR⟩ := HY.out pre ⟨(k, s), hps⟩ wr HP.out.2.1 (by omega)
   have c0 := HP.out.2.2.1
   subst ha
   obtain ⟨d0, d1, d2, d3, d4⟩ := cells5f (hrg k s hs)
   dsimp only at hy
   unfold Fi.cs at hy
   have e1 : ((k + 1 : Nat) : Int) - 1 = k := by omega
   rw [e1]
   have hkl : (k : Int) < ss.length := by omega
   have hk0 : (0 : Int) ≤ k := by omega
   have HS := hide (And.intro hs (And.intro hgl hrg))
   clear hs hgl hrg hlen
   gi_wp2_with fail
   refine ⟨fun h => (by cases h), hR.mono ?_⟩
   rintro e W3 (⟨rfl, hJ3, hk3⟩ | ⟨rfl, hJx3⟩)
   ·have hH : Hid (J (pre ++ [⟨(k, s), hps⟩]) W3 ∧ W3.cell? ⟨bx, 0, none⟩ = some (.slice (some ⟨gg, off, none⟩) ss.length c) ∧ RowsAt Fi.cs 5 W3 (.slice (some ⟨gg, off, none⟩) ss.length c) ss) := by
     refine ⟨hJ3, (cell_same hk3.2.1).trans HP.out.2.2.1, .inr ⟨gg, off, c, rfl, Nat.lt_of_lt_of_le HS.out.2.1 hk3.1, hcap, fun i s' hs' j u hu => ?_⟩⟩
     have hgg : gg = g := HG.out _ rfl
     have e4 : W3.heap[gg]? = wr.heap[gg]? := hgg ▸ hk3.2.2
     exact (cell_same e4).trans (HS.out.2.2 i s' hs' j u hu)
    clear hJ3 hk3 hR hy
    gi_wp2_with fail
    go_roundw
    case rel =>
     refine ⟨k, pre ++ [⟨(k, s), hps⟩], rfl, by omega, ?_, hH.out⟩
     rw [List.map_append, HP.out.1]
     have e2 : ss.drop k = s :: ss.drop (k + 1) := by
      rw [List.drop_eq_getElem_cons (by omega)]
      have := HS.out.1
      rw [List.getElem?_eq_getElem (by omega)] at this
      rw [Option.some.inj this]
     rw [e2, List.reverse_cons]
     rfl
    case measure => simp only [intOf]; omega
   ·clear hR hy
    gi_wp2_with fail
    refine bodyPost_ret (results_none rfl _ _ _) rfl ?_
    exact ⟨⟨_, rfl⟩, .inr ⟨pre ++ [⟨(k, s), hps⟩], trivial, hJx3⟩⟩
end Go.Proofs.YtnbhchdaobimmaaGreatDoor
/- Contracts: the step that takes one away; going backward over files. -/
namespace Go.Proofs.YtnbhchdaobimmaaGreatDoor
open Go.RowKit Go.Img Go.Pln Go.Shelf Go.Rws
attribute [local go_sem] Oper.semAt_some
set_option maxRecDepth 100000 in
theorem infoPt : (Tryz.prog.info? 37).map (·.size) = some 3 := by kernel_rfl
set_option maxRecDepth 100000 in
theorem infoPt3 : (Tryz.prog.info? 37).map (fun i => (i.zero, i.size, i.bytes)) = some (some (.agg #[.int .i64 0, .string ⟨#[]⟩, .string ⟨#[]⟩]), 3, 40) := by kernel_rfl
set_option maxRecDepth 100000 in
theorem backwardF_any (a : Option Addr) (n c : Nat) (w : World) : Calls Tryz.prog 28 #[.slice a n c] w fun e w' => e = .returned (.func (.func 63) #[] #[.pointer (some ⟨w.heap.size, 0, none⟩)]) ∧ w' = w.alloc (.cells #[.slice a n c] 27) := by
 go_enter Tryz.func28, Tryz.ntmps28
 go_wp2
 go_ret
 exact ⟨rfl, rfl⟩
set_option maxHeartbeats 4000000 in
set_option maxRecDepth 100000 in
theorem gone_any (f : Fi) (w : World) : Calls Tryz.prog 31 #[.agg f.cs.toArray] w fun e w' => e = .returned (.agg (gon f).cs.toArray) ∧ Below w.heap.size w w' := by
 obtain ⟨p, d, i, g, z⟩ := f
 unfold gon Pt.cs Fi.cs
 dsimp only
 cases d with
 | true =>
  have HK := hide (((Below.refl _ w).alloc (Nat.le_refl _) (.cells #[.string ⟨p.toArray⟩, .bool true, .int .u64 i, .string g, .int .i64 z] 51)).alloc (by simp) (.cells #[.int .i64 2, .string ⟨p.toArray⟩, .string ⟨#[]⟩] 37))
  go_enter Tryz.func31, Tryz.ntmps31
  go_wp2_with fail
  refine bodyPost_ret (results_cell_row Tryz.results31 _ _ _ _ _ (0, 0) _ rfl (new_at (by simp) _) Tryz.underlying37 rfl infoPt) rfl ?_
  exact ⟨rfl, HK.out⟩
 | false =>
  have HK := hide (((Below.refl _ w).alloc (Nat.le_refl _) (.cells #[.string ⟨p.toArray⟩, .bool false, .int .u64 i, .string g, .int .i64 z] 51)).alloc (by simp) (.cells #[.int .i64 1, .string ⟨p.toArray⟩, .string ⟨#[]⟩] 37))
  go_enter Tryz.func31, Tryz.ntmps31
  go_wp2_with fail
  refine bodyPost_ret (results_cell_row Tryz.results31 _ _ _ _ _ (0, 0) _ rfl (new_at (by simp) _) Tryz.underlying37 rfl infoPt) rfl ?_
  exact ⟨rfl, HK.out⟩
end Go.Proofs.YtnbhchdaobimmaaGreatDoor
