/- Several texts in one: PlanDo, PlanGood, PlanPt, PlanHalfWalk. -/
import Derived.Test.YtnbhchdaobimmaaGreatDoorMunAC
import Derived.Test.YtnbhchdaobimmaaGreatDoorMunAE
import Derived.Test.YtnbhchdaobimmaaGreatDoorRunAI
import Derived.Test.YtnbhchdaobimmaaGreatDoorPlanBet
import Derived.Test.YtnbhchdaobimmaaGreatDoorPlanA
import Derived.Test.YtnbhchdaobimmaaGreatDoorOfB
/- Contract: plan.Do: what stands there behind a step. -/
namespace Go.Pln
open Go.RowKit Go.Img Go.Names
theorem rest_at {l : List Fi} (h : Img1 l) {p : Plc} {i : Nat} (hs : spotP l p = (i : Int)) : i < l.length ∧ rest l p = l.eraseIdx i := by
 unfold spotP at hs
 cases e : l.findIdx? (fun f => pk f == p) with
 | none => rw [e] at hs; simp at hs
 | some j =>
  rw [e] at hs
  obtain rfl : j = i := by
   have h9 : (j : Int) = i := by simpa using hs
   omega
  obtain ⟨h1, h2, h3⟩ := List.findIdx?_eq_some_iff_getElem.1 e
  refine ⟨h1, ?_⟩
  have hp : pk l[j] = p := by simpa using h2
  have el : l = l.take j ++ l[j] :: l.drop (j + 1) := by rw [← List.drop_eq_getElem_cons h1, List.take_append_drop]
  have hn := h.nodup
  rw [el] at hn
  obtain ⟨n1, n2, n3⟩ := List.nodup_append.1 hn
  have hno : ∀ x ∈ l, x ≠ l[j] → pk x ≠ p := fun x hx hne e2 => hne (h.same hx (List.getElem_mem h1) (by rw [e2, hp]))
  have hk1 : ∀ x ∈ l.take j, (!(pk x == p)) = true := fun x hx => by
   have := hno x (List.mem_of_mem_take hx) (fun e3 => n3 x hx l[j] List.mem_cons_self e3)
   simpa using this
  have hk2 : ∀ x ∈ l.drop (j + 1), (!(pk x == p)) = true := fun x hx => by
   have := hno x (List.mem_of_mem_drop hx) (fun e3 => (List.nodup_cons.1 n2).1 (by rw [← e3]; exact hx))
   simpa using this
  unfold Pln.rest
  rw [List.eraseIdx_eq_take_drop_succ]
  conv => lhs; rw [el]
  rw [List.filter_append, List.filter_cons_of_neg (by rw [hp]; simp), List.filter_eq_self.2 hk1, List.filter_eq_self.2 hk2]
theorem rest_not {l : List Fi} {p : Plc} (hs : spotP l p < 0) : rest l p = l := by
 unfold spotP at hs
 cases e : l.findIdx? (fun f => pk f == p) with
 | some j => rw [e] at hs; simp at hs; omega
 | none =>
  rw [List.findIdx?_eq_none_iff] at e
  unfold Pln.rest
  refine List.filter_eq_self.2 fun x hx => ?_
  have := e x hx
  rw [this]
  rfl
theorem spot_cases (l : List Fi) (p : Plc) : (∃ i : Nat, spotP l p = (i : Int)) ∨ spotP l p = -1 := by
 unfold spotP
 cases l.findIdx? (fun f => pk f == p) with
 | none => exact .inr rfl
 | some i => exact .inl ⟨i, rfl⟩
/-- One more, put in order: whatever order of them is sorted. -/
theorem ins_one {l l' : List Fi} {x : Fi} (h : Img1 l) (hx : ∀ y ∈ l, y.path ≠ x.path) (hp : l'.Perm (l ++ [x])) (hs : Srt l') : l' = insF l x := by
 have hq : l'.Perm (insF l x) := (hp.trans List.perm_append_comm).trans (insF_perm l x).symm
 refine srt_one hs (srt_insF h.srt x) hq fun a ha b hb e => ?_
 have ha2 := mem_insF.1 (hq.mem_iff.1 ha)
 have hb2 := mem_insF.1 (hq.mem_iff.1 hb)
 rcases ha2 with h1 | h1 <;> rcases hb2 with h2 | h2
 ·rw [h1, h2]
 ·exact absurd (by rw [← e, h1]) (hx b h2)
 ·exact absurd (by rw [e, h2]) (hx a h1)
 ·exact h.once a h1 b h2 e
theorem perm_one {l l' : List Fi} (h : Img1 l) (hp : l'.Perm l) (hs : Srt l') : l' = l :=
 srt_one hs h.srt hp fun a ha b hb e => h.once a (hp.mem_iff.1 ha) b (hp.mem_iff.1 hb) e
end Go.Pln
namespace Go.Proofs.YtnbhchdaobimmaaGreatDoor
open Go.RowKit Go.Img Go.Pln Go.Shelf Go.Rws Go.Names
attribute [local go_sem] Oper.semAt_some
theorem own_base {α : Type} {cs : α → List Value} {z : Nat} {T : TypeId} {W W' w : World} {vo : Value} {xs : List α} (h : OwnR cs z T W' vo xs w) (k : Below W.heap.size W W') : OwnR cs z T W vo xs w := by
 obtain ⟨⟨h0, h1⟩, hb⟩ := h
 refine ⟨⟨h0, ?_⟩, k.trans (hb.mono k.size)⟩
 rcases h1 with h1 | ⟨j, cap, cur, h1, h2, h3⟩
 ·exact .inl h1
 ·exact .inr ⟨j, cap, cur, h1, Nat.le_trans k.size h2, h3⟩
set_option maxHeartbeats 4000000 in
set_option maxRecDepth 100000 in
theorem do1_any (l : List Fi) (u : Value) (s d : ByteArray) (w : World) (hl : RowsAt Fi.cs 5 w u l) (hN : Nice u) (hi : Img1 l) (hp : ∀ f ∈ l, f.path.length ≤ 500) (hn : l.length ≤ 50000) (hs : s.size ≤ 500) (hm : mayB l 1 s = true) (i : Nat) (hsp : spotP l (s.data.toList, false) = (i : Int)) :
  Calls Tryz.prog 14 #[u, .agg #[.int .i64 1, .string s, .string d]] w fun e w' => ∃ v, e = .returned (.tuple #[v, .bool true]) ∧ OwnR Fi.cs 5 51 w v (doF l (⟨1, s.data.toList, d⟩ : Pt)) w' := by
 have hsl : s.data.toList.length ≤ 500 := by rw [Array.length_toList]; exact hs
 have eA : (⟨s.data.toList.toArray⟩ : ByteArray) = s := by simp
 have k1 := (Below.refl _ w).alloc (Nat.le_refl _) (.cells #[.int .i64 1, .string s, .string d] 37)
 have hB := heap_alloc_new w (.cells #[.int .i64 1, .string s, .string d] 37)
 obtain ⟨w1, hw1⟩ : ∃ w1, w1 = w.alloc (.cells #[.int .i64 1, .string s, .string d] 37) := ⟨_, rfl⟩
 have HC := hide (cloneFi_any l u w1 (by rw [hw1]; exact hl.below k1) hN hn)
 have HM := hide (fun v (y : World) (h : RowsAt Fi.cs 5 y v l) => may_any l v 1 s d y h (by omega) hs)
 have HF := hide (fun v (y : World) (h : RowsAt Fi.cs 5 y v l) => findPl_any l v (s.data.toList, false) y h (by omega))
 simp only [eA, hm] at HM HF
 rw [hsp] at HF
 obtain ⟨hil, hre⟩ := rest_at hi hsp
 obtain ⟨j, hj⟩ : ∃ j, j = i + 1 := ⟨_, rfl⟩
 have hjI : (i : Int) + 1 = j := by omega
 have HL := hide (And.intro hil hj)
 have hi0 : (0 : Int) ≤ i := by omega
 have hiN : (i : Int) ≤ 100000 := by omega
 have hone := hi.rest (s.data.toList, false)
 rw [hre] at hone
 have hpo : ∀ f ∈ (l.eraseIdx i), f.path.length ≤ 500 := fun f hf => by
  rw [← hre] at hf
  exact hp f (mem_rest.1 hf).1
 have hno : ((l.eraseIdx i)).length ≤ 50000 := by rw [← hre]; exact Nat.le_trans (List.length_filter_le _ _) hn
 have HD : Hid (∀ l', l'.Perm (l.eraseIdx i) → Srt l' → l' = doF l (⟨1, s.data.toList, d⟩ : Pt)) := fun l' h1 h2 => by
  rw [perm_one hone h1 h2]
  unfold doF
  rw [if_neg (by simp)]
  exact hre.symm
 have HS := hide (And.intro hpo hno)
 have HB : Hid (w1.heap[w.heap.size]? = some (.cells #[.int .i64 1, .string s, .string d] 37 (0, 0)) ∧ Below w.heap.size w w1) := by rw [hw1]; exact ⟨hB, k1⟩
 clear hl hN hi hp hn hs hm hsp hre hone hpo hno k1 hB eA hil hj
 go_enter Tryz.func14, Tryz.ntmps14
 go_upto_region 1 with fail
 rw [← hw1]
 clear hw1
 go_upto_region 2 with (go_at_call 36; refine HC.out.mono ?_; rintro r w2 ⟨v1, rfl, ho⟩; have H1 := hide ho; clear ho HC)
 have HB2 : Hid (w2.heap[w.heap.size]? = some (.cells #[.int .i64 1, .string s, .string d] 37 (0, 0))) := (H1.out.below.block _ (Array.getElem?_eq_some_iff.1 HB.out.1).1).trans HB.out.1
 have HM2 := hide (HM.out v1 w2 (H1.out.rows Fi.cs_length))
 clear HM
 go_upto_region 4 with (first
  | (refine wpList_load_row rfl 37 _ rfl _ rfl _ _ _ _ HB2.out Tryz.underlying37 rfl (by kernel_rfl) ?_)
  | (go_at_call 37; refine HM2.out.mono ?_; rintro r w3 ⟨rfl, k3⟩; have K3 := hide k3; clear k3 HM2))
 have HB3 : Hid (w3.heap[w.heap.size]? = some (.cells #[.int .i64 1, .string s, .string d] 37 (0, 0))) := (K3.out.block _ (Array.getElem?_eq_some_iff.1 HB2.out).1).trans HB2.out
 have H3 := hide (H1.out.step K3.out)
 have b0 : w3.cell? ⟨w.heap.size, 0, none⟩ = some (.int .i64 1) := (cell_of_row _ _ _ _ _ _ HB3.out).trans rfl
 have b1 : w3.cell? ⟨w.heap.size, 1, none⟩ = some (.string s) := (cell_of_row _ _ _ _ _ _ HB3.out).trans rfl
 have HF3 := hide (HF.out v1 w3 (H3.out.rows Fi.cs_length))
 clear H1 HB2 K3 HF
 go_upto_region 6 with (go_at_call 38; refine HF3.out.mono ?_; rintro r w4 ⟨rfl, k4⟩; have K4 := hide k4; clear k4 HF3)
 have HB4 : Hid (w4.heap[w.heap.size]? = some (.cells #[.int .i64 1, .string s, .string d] 37 (0, 0))) := (K4.out.block _ (Array.getElem?_eq_some_iff.1 HB3.out).1).trans HB3.out
 have H4 := hide (H3.out.step K4.out)
 clear H3 HB3 K4 b0 b1
 obtain ⟨g, c, hv⟩ : ∃ g c, v1 = .slice (some ⟨g, 0, none⟩) l.length c := by
  rcases H4.out.own.2 with ⟨_, h1⟩ | ⟨q, cap, cur, h1, _⟩
  ·exact absurd HL.out.1 (by rw [h1]; exact Nat.not_lt_zero _)
  ·exact ⟨_, _, h1⟩
 subst hv
 obtain ⟨N, hNe⟩ : ∃ N, N = l.length := ⟨_, rfl⟩
 have HDl := hide (delFi_any (W := w1) w4 H4.out HL.out.1 HL.out.2 (by have := HS.out.2; rw [List.length_eraseIdx, if_pos HL.out.1] at this; omega))
 obtain ⟨N1, hN1⟩ : ∃ N1, N1 = l.length - 1 := ⟨_, rfl⟩
 rw [← hN1] at HDl
 rw [← hNe] at HDl ⊢
 clear hNe hN1 H4
 go_upto_region 8 with (go_at_call 39; refine HDl.out.mono ?_; rintro r w5 ⟨rfl, k5⟩; have H5 := hide k5; clear k5 HDl)
 clear hjI
 have HB5 : Hid (w5.heap[w.heap.size]? = some (.cells #[.int .i64 1, .string s, .string d] 37 (0, 0))) := (H5.out.below.block _ (Array.getElem?_eq_some_iff.1 HB.out.1).1).trans HB.out.1
 have c0 : w5.cell? ⟨w.heap.size, 0, none⟩ = some (.int .i64 1) := (cell_of_row _ _ _ _ _ _ HB5.out).trans rfl
 have HT := hide (stabG_any (W := w1) (l.eraseIdx i) _ w5 H5.out (fun f hf => by have := HS.out.1 f hf; omega) (by have := HS.out.2; omega))
 go_wp2_with (go_at_call 40; refine HT.out.mono ?_; rintro r w7 ⟨rfl, k7⟩; have H7 := hide k7; clear k7 HT)
 go_ret2
 obtain ⟨l9, h1, h2, h3⟩ := H7.out
 rw [HD.out l9 h1 h2] at h3
 exact ⟨_, rfl, own_base h3 HB.out.2⟩
set_option maxHeartbeats 4000000 in
set_option maxRecDepth 100000 in
theorem do2_any (l : List Fi) (u : Value) (s d : ByteArray) (w : World) (hl : RowsAt Fi.cs 5 w u l) (hN : Nice u) (hi : Img1 l) (hp : ∀ f ∈ l, f.path.length ≤ 500) (hn : l.length ≤ 50000) (hs : s.size ≤ 500) (hm : mayB l 2 s = true) (i : Nat) (hsp : spotP l (s.data.toList, true) = (i : Int)) :
  Calls Tryz.prog 14 #[u, .agg #[.int .i64 2, .string s, .string d]] w fun e w' => ∃ v, e = .returned (.tuple #[v, .bool true]) ∧ OwnR Fi.cs 5 51 w v (doF l (⟨2, s.data.toList, d⟩ : Pt)) w' := by
 have hsl : s.data.toList.length ≤ 500 := by rw [Array.length_toList]; exact hs
 have eA : (⟨s.data.toList.toArray⟩ : ByteArray) = s := by simp
 have k1 := (Below.refl _ w).alloc (Nat.le_refl _) (.cells #[.int .i64 2, .string s, .string d] 37)
 have hB := heap_alloc_new w (.cells #[.int .i64 2, .string s, .string d] 37)
 obtain ⟨w1, hw1⟩ : ∃ w1, w1 = w.alloc (.cells #[.int .i64 2, .string s, .string d] 37) := ⟨_, rfl⟩
 have HC := hide (cloneFi_any l u w1 (by rw [hw1]; exact hl.below k1) hN hn)
 have HM := hide (fun v (y : World) (h : RowsAt Fi.cs 5 y v l) => may_any l v 2 s d y h (by omega) hs)
 have HF := hide (fun v (y : World) (h : RowsAt Fi.cs 5 y v l) => findPl_any l v (s.data.toList, true) y h (by omega))
 simp only [eA, hm] at HM HF
 rw [hsp] at HF
 obtain ⟨hil, hre⟩ := rest_at hi hsp
 obtain ⟨j, hj⟩ : ∃ j, j = i + 1 := ⟨_, rfl⟩
 have hjI : (i : Int) + 1 = j := by omega
 have HL := hide (And.intro hil hj)
 have hi0 : (0 : Int) ≤ i := by omega
 have hiN : (i : Int) ≤ 100000 := by omega
 have hone := hi.rest (s.data.toList, true)
 rw [hre] at hone
 have hpo : ∀ f ∈ (l.eraseIdx i), f.path.length ≤ 500 := fun f hf => by
  rw [← hre] at hf
  exact hp f (mem_rest.1 hf).1
 have hno : ((l.eraseIdx i)).length ≤ 50000 := by rw [← hre]; exact Nat.le_trans (List.length_filter_le _ _) hn
 have HD : Hid (∀ l', l'.Perm (l.eraseIdx i) → Srt l' → l' = doF l (⟨2, s.data.toList, d⟩ : Pt)) := fun l' h1 h2 => by
  rw [perm_one hone h1 h2]
  unfold doF
  rw [if_neg (by simp)]
  exact hre.symm
 have HS := hide (And.intro hpo hno)
 have HB : Hid (w1.heap[w.heap.size]? = some (.cells #[.int .i64 2, .string s, .string d] 37 (0, 0)) ∧ Below w.heap.size w w1) := by rw [hw1]; exact ⟨hB, k1⟩
 clear hl hN hi hp hn hs hm hsp hre hone hpo hno k1 hB eA hil hj
 go_enter Tryz.func14, Tryz.ntmps14
 go_upto_region 1 with fail
 rw [← hw1]
 clear hw1
 go_upto_region 2 with (go_at_call 36; refine HC.out.mono ?_; rintro r w2 ⟨v1, rfl, ho⟩; have H1 := hide ho; clear ho HC)
 have HB2 : Hid (w2.heap[w.heap.size]? = some (.cells #[.int .i64 2, .string s, .string d] 37 (0, 0))) := (H1.out.below.block _ (Array.getElem?_eq_some_iff.1 HB.out.1).1).trans HB.out.1
 have HM2 := hide (HM.out v1 w2 (H1.out.rows Fi.cs_length))
 clear HM
 go_upto_region 4 with (first
  | (refine wpList_load_row rfl 37 _ rfl _ rfl _ _ _ _ HB2.out Tryz.underlying37 rfl (by kernel_rfl) ?_)
  | (go_at_call 37; refine HM2.out.mono ?_; rintro r w3 ⟨rfl, k3⟩; have K3 := hide k3; clear k3 HM2))
 have HB3 : Hid (w3.heap[w.heap.size]? = some (.cells #[.int .i64 2, .string s, .string d] 37 (0, 0))) := (K3.out.block _ (Array.getElem?_eq_some_iff.1 HB2.out).1).trans HB2.out
 have H3 := hide (H1.out.step K3.out)
 have b0 : w3.cell? ⟨w.heap.size, 0, none⟩ = some (.int .i64 2) := (cell_of_row _ _ _ _ _ _ HB3.out).trans rfl
 have b1 : w3.cell? ⟨w.heap.size, 1, none⟩ = some (.string s) := (cell_of_row _ _ _ _ _ _ HB3.out).trans rfl
 have HF3 := hide (HF.out v1 w3 (H3.out.rows Fi.cs_length))
 clear H1 HB2 K3 HF
 go_upto_region 6 with (go_at_call 38; refine HF3.out.mono ?_; rintro r w4 ⟨rfl, k4⟩; have K4 := hide k4; clear k4 HF3)
 have HB4 : Hid (w4.heap[w.heap.size]? = some (.cells #[.int .i64 2, .string s, .string d] 37 (0, 0))) := (K4.out.block _ (Array.getElem?_eq_some_iff.1 HB3.out).1).trans HB3.out
 have H4 := hide (H3.out.step K4.out)
 clear H3 HB3 K4 b0 b1
 obtain ⟨g, c, hv⟩ : ∃ g c, v1 = .slice (some ⟨g, 0, none⟩) l.length c := by
  rcases H4.out.own.2 with ⟨_, h1⟩ | ⟨q, cap, cur, h1, _⟩
  ·exact absurd HL.out.1 (by rw [h1]; exact Nat.not_lt_zero _)
  ·exact ⟨_, _, h1⟩
 subst hv
 obtain ⟨N, hNe⟩ : ∃ N, N = l.length := ⟨_, rfl⟩
 have HDl := hide (delFi_any (W := w1) w4 H4.out HL.out.1 HL.out.2 (by have := HS.out.2; rw [List.length_eraseIdx, if_pos HL.out.1] at this; omega))
 obtain ⟨N1, hN1⟩ : ∃ N1, N1 = l.length - 1 := ⟨_, rfl⟩
 rw [← hN1] at HDl
 rw [← hNe] at HDl ⊢
 clear hNe hN1 H4
 go_upto_region 8 with (go_at_call 39; refine HDl.out.mono ?_; rintro r w5 ⟨rfl, k5⟩; have H5 := hide k5; clear k5 HDl)
 clear hjI
 have HB5 : Hid (w5.heap[w.heap.size]? = some (.cells #[.int .i64 2, .string s, .string d] 37 (0, 0))) := (H5.out.below.block _ (Array.getElem?_eq_some_iff.1 HB.out.1).1).trans HB.out.1
 have c0 : w5.cell? ⟨w.heap.size, 0, none⟩ = some (.int .i64 2) := (cell_of_row _ _ _ _ _ _ HB5.out).trans rfl
 have HT := hide (stabG_any (W := w1) (l.eraseIdx i) _ w5 H5.out (fun f hf => by have := HS.out.1 f hf; omega) (by have := HS.out.2; omega))
 go_wp2_with (go_at_call 40; refine HT.out.mono ?_; rintro r w7 ⟨rfl, k7⟩; have H7 := hide k7; clear k7 HT)
 go_ret2
 obtain ⟨l9, h1, h2, h3⟩ := H7.out
 rw [HD.out l9 h1 h2] at h3
 exact ⟨_, rfl, own_base h3 HB.out.2⟩
set_option maxHeartbeats 4000000 in
set_option maxRecDepth 100000 in
theorem do3_any (l : List Fi) (u : Value) (s d : ByteArray) (w : World) (hl : RowsAt Fi.cs 5 w u l) (hN : Nice u) (hi : Img1 l) (hp : ∀ f ∈ l, f.path.length ≤ 500) (hn : l.length ≤ 50000) (hs : s.size ≤ 500) (hm : mayB l 3 s = true) (hsp : spotP l (s.data.toList, true) = -1) :
  Calls Tryz.prog 14 #[u, .agg #[.int .i64 3, .string s, .string d]] w fun e w' => ∃ v, e = .returned (.tuple #[v, .bool true]) ∧ OwnR Fi.cs 5 51 w v (doF l (⟨3, s.data.toList, d⟩ : Pt)) w' := by
 have hsl : s.data.toList.length ≤ 500 := by rw [Array.length_toList]; exact hs
 have eA : (⟨s.data.toList.toArray⟩ : ByteArray) = s := by simp
 have k1 := (Below.refl _ w).alloc (Nat.le_refl _) (.cells #[.int .i64 3, .string s, .string d] 37)
 have hB := heap_alloc_new w (.cells #[.int .i64 3, .string s, .string d] 37)
 obtain ⟨w1, hw1⟩ : ∃ w1, w1 = w.alloc (.cells #[.int .i64 3, .string s, .string d] 37) := ⟨_, rfl⟩
 have HC := hide (cloneFi_any l u w1 (by rw [hw1]; exact hl.below k1) hN hn)
 have HM := hide (fun v (y : World) (h : RowsAt Fi.cs 5 y v l) => may_any l v 3 s d y h (by omega) hs)
 have HF := hide (fun v (y : World) (h : RowsAt Fi.cs 5 y v l) => findPl_any l v (s.data.toList, true) y h (by omega))
 simp only [eA, hm] at HM HF
 rw [hsp] at HF
 have hre := rest_not (l := l) (p := (s.data.toList, true)) (by rw [hsp]; decide)
 have hone := hi.rest (s.data.toList, true)
 rw [hre] at hone
 have hpo : ∀ f ∈ l, f.path.length ≤ 500 := fun f hf => by
  rw [← hre] at hf
  exact hp f (mem_rest.1 hf).1
 have hno : (l).length ≤ 50000 := by rw [← hre]; exact Nat.le_trans (List.length_filter_le _ _) hn
 have hnx : ∀ y ∈ l, y.path ≠ (⟨s.data.toList, true, 0, d, 0⟩ : Fi).path := by
  intro y hy e
  rw [← hre] at hy
  obtain ⟨h1, h2⟩ := mem_rest.1 hy
  have h3 : mayB l 3 s = true := hm
  unfold mayB at h3
  simp only [Bool.and_eq_true, Bool.not_eq_true', reduceIte, Int.reduceEq] at h3
  have e2 : y.path = s.data.toList := e
  cases hd : y.dir with
  | true => exact absurd (lkP_is.2 ⟨y, h1, by unfold pk; rw [e2, hd]⟩) (by rw [h3.2.1]; simp)
  | false => exact absurd (lkP_is.2 ⟨y, h1, by unfold pk; rw [e2, hd]⟩) (by rw [h3.1]; simp)
 have HD : Hid (∀ l', l'.Perm (l ++ [(⟨s.data.toList, true, 0, d, 0⟩ : Fi)]) → Srt l' → l' = doF l (⟨3, s.data.toList, d⟩ : Pt)) := fun l' h1 h2 => by
  rw [ins_one hone hnx h1 h2]
  unfold doF
  rw [if_pos (by simp)]
  show _ = insF (rest l (s.data.toList, true)) _
  rw [hre]
  rfl
 have HS := hide (And.intro hpo hno)
 have HB : Hid (w1.heap[w.heap.size]? = some (.cells #[.int .i64 3, .string s, .string d] 37 (0, 0)) ∧ Below w.heap.size w w1) := by rw [hw1]; exact ⟨hB, k1⟩
 clear hl hN hi hp hn hs hm hsp hre hone hpo hno hnx k1 hB eA
 go_enter Tryz.func14, Tryz.ntmps14
 go_upto_region 1 with fail
 rw [← hw1]
 clear hw1
 go_upto_region 2 with (go_at_call 36; refine HC.out.mono ?_; rintro r w2 ⟨v1, rfl, ho⟩; have H1 := hide ho; clear ho HC)
 have HB2 : Hid (w2.heap[w.heap.size]? = some (.cells #[.int .i64 3, .string s, .string d] 37 (0, 0))) := (H1.out.below.block _ (Array.getElem?_eq_some_iff.1 HB.out.1).1).trans HB.out.1
 have HM2 := hide (HM.out v1 w2 (H1.out.rows Fi.cs_length))
 clear HM
 go_upto_region 4 with (first
  | (refine wpList_load_row rfl 37 _ rfl _ rfl _ _ _ _ HB2.out Tryz.underlying37 rfl (by kernel_rfl) ?_)
  | (go_at_call 37; refine HM2.out.mono ?_; rintro r w3 ⟨rfl, k3⟩; have K3 := hide k3; clear k3 HM2))
 have HB3 : Hid (w3.heap[w.heap.size]? = some (.cells #[.int .i64 3, .string s, .string d] 37 (0, 0))) := (K3.out.block _ (Array.getElem?_eq_some_iff.1 HB2.out).1).trans HB2.out
 have H3 := hide (H1.out.step K3.out)
 have b0 : w3.cell? ⟨w.heap.size, 0, none⟩ = some (.int .i64 3) := (cell_of_row _ _ _ _ _ _ HB3.out).trans rfl
 have b1 : w3.cell? ⟨w.heap.size, 1, none⟩ = some (.string s) := (cell_of_row _ _ _ _ _ _ HB3.out).trans rfl
 have HF3 := hide (HF.out v1 w3 (H3.out.rows Fi.cs_length))
 clear H1 HB2 K3 HF
 go_upto_region 6 with (go_at_call 38; refine HF3.out.mono ?_; rintro r w4 ⟨rfl, k4⟩; have K4 := hide k4; clear k4 HF3)
 have HB4 : Hid (w4.heap[w.heap.size]? = some (.cells #[.int .i64 3, .string s, .string d] 37 (0, 0))) := (K4.out.block _ (Array.getElem?_eq_some_iff.1 HB3.out).1).trans HB3.out
 have H4 := hide (H3.out.step K4.out)
 clear H3 HB3 K4 b0 b1
 obtain ⟨va, vc, hv⟩ := H4.out.form
 subst hv
 obtain ⟨N, hNe⟩ : ∃ N, N = l.length := ⟨_, rfl⟩
 rw [← hNe] at H4 ⊢
 go_upto_region 8 with fail
 have H5 := H4
 clear H4
 obtain ⟨w5, hw5⟩ : ∃ w5, w5 = w4 := ⟨_, rfl⟩
 rw [← hw5] at H5 ⊢
 clear hw5
 have HB5 : Hid (w5.heap[w.heap.size]? = some (.cells #[.int .i64 3, .string s, .string d] 37 (0, 0))) := (H5.out.below.block _ (Array.getElem?_eq_some_iff.1 HB.out.1).1).trans HB.out.1
 have c0 : w5.cell? ⟨w.heap.size, 0, none⟩ = some (.int .i64 3) := (cell_of_row _ _ _ _ _ _ HB5.out).trans rfl
 have c1 : w5.cell? ⟨w.heap.size, 1, none⟩ = some (.string s) := (cell_of_row _ _ _ _ _ _ HB5.out).trans rfl
 have c2 : w5.cell? ⟨w.heap.size, 2, none⟩ = some (.string d) := (cell_of_row _ _ _ _ _ _ HB5.out).trans rfl
 go_upto_region 10 with (at_builtin; refine OwnR.append H5.out (⟨s.data.toList, true, 0, d, 0⟩ : Fi) Fi.cs_length (fi_one _) (by decide) infoFi16 rfl (by have := HS.out.2; omega) (by decide) rfl _ _ 27 Tryz.underlying27 rfl rfl rfl ?_; intro a1 cc1 w6 hO; have HO := hide hO; clear hO)
 have HT := hide (stabG_any (W := w1) (l ++ [(⟨s.data.toList, true, 0, d, 0⟩ : Fi)]) _ w6 HO.out (fun f hf => by
  rcases List.mem_append.1 hf with h | h
  ·have := HS.out.1 f h; omega
  ·rw [List.mem_singleton.1 h]; show s.data.toList.length ≤ 1000; omega) (by rw [List.length_append]; have := HS.out.2; simp only [List.length_singleton]; omega))
 go_wp2_with (go_at_call 40; refine HT.out.mono ?_; rintro r w7 ⟨rfl, k7⟩; have H7 := hide k7; clear k7 HT)
 go_ret2
 obtain ⟨l9, h1, h2, h3⟩ := H7.out
 rw [HD.out l9 h1 h2] at h3
 exact ⟨_, rfl, own_base h3 HB.out.2⟩
set_option maxHeartbeats 4000000 in
set_option maxRecDepth 100000 in
theorem do4f_any (l : List Fi) (u : Value) (s d : ByteArray) (w : World) (hl : RowsAt Fi.cs 5 w u l) (hN : Nice u) (hi : Img1 l) (hp : ∀ f ∈ l, f.path.length ≤ 500) (hn : l.length ≤ 50000) (hs : s.size ≤ 500) (hm : mayB l 4 s = true) (i : Nat) (hsp : spotP l (s.data.toList, false) = (i : Int)) :
  Calls Tryz.prog 14 #[u, .agg #[.int .i64 4, .string s, .string d]] w fun e w' => ∃ v, e = .returned (.tuple #[v, .bool true]) ∧ OwnR Fi.cs 5 51 w v (doF l (⟨4, s.data.toList, d⟩ : Pt)) w' := by
 have hsl : s.data.toList.length ≤ 500 := by rw [Array.length_toList]; exact hs
 have eA : (⟨s.data.toList.toArray⟩ : ByteArray) = s := by simp
 have k1 := (Below.refl _ w).alloc (Nat.le_refl _) (.cells #[.int .i64 4, .string s, .string d] 37)
 have hB := heap_alloc_new w (.cells #[.int .i64 4, .string s, .string d] 37)
 obtain ⟨w1, hw1⟩ : ∃ w1, w1 = w.alloc (.cells #[.int .i64 4, .string s, .string d] 37) := ⟨_, rfl⟩
 have HC := hide (cloneFi_any l u w1 (by rw [hw1]; exact hl.below k1) hN hn)
 have HM := hide (fun v (y : World) (h : RowsAt Fi.cs 5 y v l) => may_any l v 4 s d y h (by omega) hs)
 have HF := hide (fun v (y : World) (h : RowsAt Fi.cs 5 y v l) => findPl_any l v (s.data.toList, false) y h (by omega))
 simp only [eA, hm] at HM HF
 rw [hsp] at HF
 obtain ⟨hil, hre⟩ := rest_at hi hsp
 obtain ⟨j, hj⟩ : ∃ j, j = i + 1 := ⟨_, rfl⟩
 have hjI : (i : Int) + 1 = j := by omega
 have HL := hide (And.intro hil hj)
 have hi0 : (0 : Int) ≤ i := by omega
 have hiN : (i : Int) ≤ 100000 := by omega
 have hone := hi.rest (s.data.toList, false)
 rw [hre] at hone
 have hpo : ∀ f ∈ (l.eraseIdx i), f.path.length ≤ 500 := fun f hf => by
  rw [← hre] at hf
  exact hp f (mem_rest.1 hf).1
 have hno : ((l.eraseIdx i)).length ≤ 50000 := by rw [← hre]; exact Nat.le_trans (List.length_filter_le _ _) hn
 have hnx : ∀ y ∈ (l.eraseIdx i), y.path ≠ (⟨s.data.toList, false, 0, d, 0⟩ : Fi).path := by
  intro y hy e
  rw [← hre] at hy
  obtain ⟨h1, h2⟩ := mem_rest.1 hy
  have h3 : mayB l 4 s = true := hm
  unfold mayB at h3
  simp only [Bool.and_eq_true, Bool.not_eq_true', reduceIte, Int.reduceEq] at h3
  have e2 : y.path = s.data.toList := e
  cases hd : y.dir with
  | true => exact absurd (lkP_is.2 ⟨y, h1, by unfold pk; rw [e2, hd]⟩) (by rw [h3.1]; simp)
  | false => exact absurd (lkP_is.2 ⟨y, h1, by unfold pk; rw [e2, hd]⟩) (by exact fun _ => h2 (by unfold pk; rw [e2, hd]))
 have HD : Hid (∀ l', l'.Perm ((l.eraseIdx i) ++ [(⟨s.data.toList, false, 0, d, 0⟩ : Fi)]) → Srt l' → l' = doF l (⟨4, s.data.toList, d⟩ : Pt)) := fun l' h1 h2 => by
  rw [ins_one hone hnx h1 h2]
  unfold doF
  rw [if_pos (by simp)]
  show _ = insF (rest l (s.data.toList, false)) _
  rw [hre]
  rfl
 have HS := hide (And.intro hpo hno)
 have HB : Hid (w1.heap[w.heap.size]? = some (.cells #[.int .i64 4, .string s, .string d] 37 (0, 0)) ∧ Below w.heap.size w w1) := by rw [hw1]; exact ⟨hB, k1⟩
 clear hl hN hi hp hn hs hm hsp hre hone hpo hno hnx k1 hB eA hil hj
 go_enter Tryz.func14, Tryz.ntmps14
 go_upto_region 1 with fail
 rw [← hw1]
 clear hw1
 go_upto_region 2 with (go_at_call 36; refine HC.out.mono ?_; rintro r w2 ⟨v1, rfl, ho⟩; have H1 := hide ho; clear ho HC)
 have HB2 : Hid (w2.heap[w.heap.size]? = some (.cells #[.int .i64 4, .string s, .string d] 37 (0, 0))) := (H1.out.below.block _ (Array.getElem?_eq_some_iff.1 HB.out.1).1).trans HB.out.1
 have HM2 := hide (HM.out v1 w2 (H1.out.rows Fi.cs_length))
 clear HM
 go_upto_region 4 with (first
  | (refine wpList_load_row rfl 37 _ rfl _ rfl _ _ _ _ HB2.out Tryz.underlying37 rfl (by kernel_rfl) ?_)
  | (go_at_call 37; refine HM2.out.mono ?_; rintro r w3 ⟨rfl, k3⟩; have K3 := hide k3; clear k3 HM2))
 have HB3 : Hid (w3.heap[w.heap.size]? = some (.cells #[.int .i64 4, .string s, .string d] 37 (0, 0))) := (K3.out.block _ (Array.getElem?_eq_some_iff.1 HB2.out).1).trans HB2.out
 have H3 := hide (H1.out.step K3.out)
 have b0 : w3.cell? ⟨w.heap.size, 0, none⟩ = some (.int .i64 4) := (cell_of_row _ _ _ _ _ _ HB3.out).trans rfl
 have b1 : w3.cell? ⟨w.heap.size, 1, none⟩ = some (.string s) := (cell_of_row _ _ _ _ _ _ HB3.out).trans rfl
 have HF3 := hide (HF.out v1 w3 (H3.out.rows Fi.cs_length))
 clear H1 HB2 K3 HF
 go_upto_region 6 with (go_at_call 38; refine HF3.out.mono ?_; rintro r w4 ⟨rfl, k4⟩; have K4 := hide k4; clear k4 HF3)
 have HB4 : Hid (w4.heap[w.heap.size]? = some (.cells #[.int .i64 4, .string s, .string d] 37 (0, 0))) := (K4.out.block _ (Array.getElem?_eq_some_iff.1 HB3.out).1).trans HB3.out
 have H4 := hide (H3.out.step K4.out)
 clear H3 HB3 K4 b0 b1
 obtain ⟨g, c, hv⟩ : ∃ g c, v1 = .slice (some ⟨g, 0, none⟩) l.length c := by
  rcases H4.out.own.2 with ⟨_, h1⟩ | ⟨q, cap, cur, h1, _⟩
  ·exact absurd HL.out.1 (by rw [h1]; exact Nat.not_lt_zero _)
  ·exact ⟨_, _, h1⟩
 subst hv
 obtain ⟨N, hNe⟩ : ∃ N, N = l.length := ⟨_, rfl⟩
 have HDl := hide (delFi_any (W := w1) w4 H4.out HL.out.1 HL.out.2 (by have := HS.out.2; rw [List.length_eraseIdx, if_pos HL.out.1] at this; omega))
 obtain ⟨N1, hN1⟩ : ∃ N1, N1 = l.length - 1 := ⟨_, rfl⟩
 rw [← hN1] at HDl
 rw [← hNe] at HDl ⊢
 clear hNe hN1 H4
 go_upto_region 8 with (go_at_call 39; refine HDl.out.mono ?_; rintro r w5 ⟨rfl, k5⟩; have H5 := hide k5; clear k5 HDl)
 clear hjI
 have HB5 : Hid (w5.heap[w.heap.size]? = some (.cells #[.int .i64 4, .string s, .string d] 37 (0, 0))) := (H5.out.below.block _ (Array.getElem?_eq_some_iff.1 HB.out.1).1).trans HB.out.1
 have c0 : w5.cell? ⟨w.heap.size, 0, none⟩ = some (.int .i64 4) := (cell_of_row _ _ _ _ _ _ HB5.out).trans rfl
 have c1 : w5.cell? ⟨w.heap.size, 1, none⟩ = some (.string s) := (cell_of_row _ _ _ _ _ _ HB5.out).trans rfl
 have c2 : w5.cell? ⟨w.heap.size, 2, none⟩ = some (.string d) := (cell_of_row _ _ _ _ _ _ HB5.out).trans rfl
 go_upto_region 10 with (at_builtin; refine OwnR.append H5.out (⟨s.data.toList, false, 0, d, 0⟩ : Fi) Fi.cs_length (fi_one _) (by decide) infoFi16 rfl (by have := HS.out.2; omega) (by decide) rfl _ _ 27 Tryz.underlying27 rfl rfl rfl ?_; intro a1 cc1 w6 hO; have HO := hide hO; clear hO)
 have HT := hide (stabG_any (W := w1) ((l.eraseIdx i) ++ [(⟨s.data.toList, false, 0, d, 0⟩ : Fi)]) _ w6 HO.out (fun f hf => by
  rcases List.mem_append.1 hf with h | h
  ·have := HS.out.1 f h; omega
  ·rw [List.mem_singleton.1 h]; show s.data.toList.length ≤ 1000; omega) (by rw [List.length_append]; have := HS.out.2; simp only [List.length_singleton]; omega))
 go_wp2_with (go_at_call 40; refine HT.out.mono ?_; rintro r w7 ⟨rfl, k7⟩; have H7 := hide k7; clear k7 HT)
 go_ret2
 obtain ⟨l9, h1, h2, h3⟩ := H7.out
 rw [HD.out l9 h1 h2] at h3
 exact ⟨_, rfl, own_base h3 HB.out.2⟩
set_option maxHeartbeats 4000000 in
set_option maxRecDepth 100000 in
theorem do4n_any (l : List Fi) (u : Value) (s d : ByteArray) (w : World) (hl : RowsAt Fi.cs 5 w u l) (hN : Nice u) (hi : Img1 l) (hp : ∀ f ∈ l, f.path.length ≤ 500) (hn : l.length ≤ 50000) (hs : s.size ≤ 500) (hm : mayB l 4 s = true) (hsp : spotP l (s.data.toList, false) = -1) :
  Calls Tryz.prog 14 #[u, .agg #[.int .i64 4, .string s, .string d]] w fun e w' => ∃ v, e = .returned (.tuple #[v, .bool true]) ∧ OwnR Fi.cs 5 51 w v (doF l (⟨4, s.data.toList, d⟩ : Pt)) w' := by
 have hsl : s.data.toList.length ≤ 500 := by rw [Array.length_toList]; exact hs
 have eA : (⟨s.data.toList.toArray⟩ : ByteArray) = s := by simp
 have k1 := (Below.refl _ w).alloc (Nat.le_refl _) (.cells #[.int .i64 4, .string s, .string d] 37)
 have hB := heap_alloc_new w (.cells #[.int .i64 4, .string s, .string d] 37)
 obtain ⟨w1, hw1⟩ : ∃ w1, w1 = w.alloc (.cells #[.int .i64 4, .string s, .string d] 37) := ⟨_, rfl⟩
 have HC := hide (cloneFi_any l u w1 (by rw [hw1]; exact hl.below k1) hN hn)
 have HM := hide (fun v (y : World) (h : RowsAt Fi.cs 5 y v l) => may_any l v 4 s d y h (by omega) hs)
 have HF := hide (fun v (y : World) (h : RowsAt Fi.cs 5 y v l) => findPl_any l v (s.data.toList, false) y h (by omega))
 simp only [eA, hm] at HM HF
 rw [hsp] at HF
 have hre := rest_not (l := l) (p := (s.data.toList, false)) (by rw [hsp]; decide)
 have hone := hi.rest (s.data.toList, false)
 rw [hre] at hone
 have hpo : ∀ f ∈ l, f.path.length ≤ 500 := fun f hf => by
  rw [← hre] at hf
  exact hp f (mem_rest.1 hf).1
 have hno : (l).length ≤ 50000 := by rw [← hre]; exact Nat.le_trans (List.length_filter_le _ _) hn
 have hnx : ∀ y ∈ l, y.path ≠ (⟨s.data.toList, false, 0, d, 0⟩ : Fi).path := by
  intro y hy e
  rw [← hre] at hy
  obtain ⟨h1, h2⟩ := mem_rest.1 hy
  have h3 : mayB l 4 s = true := hm
  unfold mayB at h3
  simp only [Bool.and_eq_true, Bool.not_eq_true', reduceIte, Int.reduceEq] at h3
  have e2 : y.path = s.data.toList := e
  cases hd : y.dir with
  | true => exact absurd (lkP_is.2 ⟨y, h1, by unfold pk; rw [e2, hd]⟩) (by rw [h3.1]; simp)
  | false => exact absurd (lkP_is.2 ⟨y, h1, by unfold pk; rw [e2, hd]⟩) (by exact fun _ => h2 (by unfold pk; rw [e2, hd]))
 have HD : Hid (∀ l', l'.Perm (l ++ [(⟨s.data.toList, false, 0, d, 0⟩ : Fi)]) → Srt l' → l' = doF l (⟨4, s.data.toList, d⟩ : Pt)) := fun l' h1 h2 => by
  rw [ins_one hone hnx h1 h2]
  unfold doF
  rw [if_pos (by simp)]
  show _ = insF (rest l (s.data.toList, false)) _
  rw [hre]
  rfl
 have HS := hide (And.intro hpo hno)
 have HB : Hid (w1.heap[w.heap.size]? = some (.cells #[.int .i64 4, .string s, .string d] 37 (0, 0)) ∧ Below w.heap.size w w1) := by rw [hw1]; exact ⟨hB, k1⟩
 clear hl hN hi hp hn hs hm hsp hre hone hpo hno hnx k1 hB eA
 go_enter Tryz.func14, Tryz.ntmps14
 go_upto_region 1 with fail
 rw [← hw1]
 clear hw1
 go_upto_region 2 with (go_at_call 36; refine HC.out.mono ?_; rintro r w2 ⟨v1, rfl, ho⟩; have H1 := hide ho; clear ho HC)
 have HB2 : Hid (w2.heap[w.heap.size]? = some (.cells #[.int .i64 4, .string s, .string d] 37 (0, 0))) := (H1.out.below.block _ (Array.getElem?_eq_some_iff.1 HB.out.1).1).trans HB.out.1
 have HM2 := hide (HM.out v1 w2 (H1.out.rows Fi.cs_length))
 clear HM
 go_upto_region 4 with (first
  | (refine wpList_load_row rfl 37 _ rfl _ rfl _ _ _ _ HB2.out Tryz.underlying37 rfl (by kernel_rfl) ?_)
  | (go_at_call 37; refine HM2.out.mono ?_; rintro r w3 ⟨rfl, k3⟩; have K3 := hide k3; clear k3 HM2))
 have HB3 : Hid (w3.heap[w.heap.size]? = some (.cells #[.int .i64 4, .string s, .string d] 37 (0, 0))) := (K3.out.block _ (Array.getElem?_eq_some_iff.1 HB2.out).1).trans HB2.out
 have H3 := hide (H1.out.step K3.out)
 have b0 : w3.cell? ⟨w.heap.size, 0, none⟩ = some (.int .i64 4) := (cell_of_row _ _ _ _ _ _ HB3.out).trans rfl
 have b1 : w3.cell? ⟨w.heap.size, 1, none⟩ = some (.string s) := (cell_of_row _ _ _ _ _ _ HB3.out).trans rfl
 have HF3 := hide (HF.out v1 w3 (H3.out.rows Fi.cs_length))
 clear H1 HB2 K3 HF
 go_upto_region 6 with (go_at_call 38; refine HF3.out.mono ?_; rintro r w4 ⟨rfl, k4⟩; have K4 := hide k4; clear k4 HF3)
 have HB4 : Hid (w4.heap[w.heap.size]? = some (.cells #[.int .i64 4, .string s, .string d] 37 (0, 0))) := (K4.out.block _ (Array.getElem?_eq_some_iff.1 HB3.out).1).trans HB3.out
 have H4 := hide (H3.out.step K4.out)
 clear H3 HB3 K4 b0 b1
 obtain ⟨va, vc, hv⟩ := H4.out.form
 subst hv
 obtain ⟨N, hNe⟩ : ∃ N, N = l.length := ⟨_, rfl⟩
 rw [← hNe] at H4 ⊢
 go_upto_region 8 with fail
 have H5 := H4
 clear H4
 obtain ⟨w5, hw5⟩ : ∃ w5, w5 = w4 := ⟨_, rfl⟩
 rw [← hw5] at H5 ⊢
 clear hw5
 have HB5 : Hid (w5.heap[w.heap.size]? = some (.cells #[.int .i64 4, .string s, .string d] 37 (0, 0))) := (H5.out.below.block _ (Array.getElem?_eq_some_iff.1 HB.out.1).1).trans HB.out.1
 have c0 : w5.cell? ⟨w.heap.size, 0, none⟩ = some (.int .i64 4) := (cell_of_row _ _ _ _ _ _ HB5.out).trans rfl
 have c1 : w5.cell? ⟨w.heap.size, 1, none⟩ = some (.string s) := (cell_of_row _ _ _ _ _ _ HB5.out).trans rfl
 have c2 : w5.cell? ⟨w.heap.size, 2, none⟩ = some (.string d) := (cell_of_row _ _ _ _ _ _ HB5.out).trans rfl
 go_upto_region 10 with (at_builtin; refine OwnR.append H5.out (⟨s.data.toList, false, 0, d, 0⟩ : Fi) Fi.cs_length (fi_one _) (by decide) infoFi16 rfl (by have := HS.out.2; omega) (by decide) rfl _ _ 27 Tryz.underlying27 rfl rfl rfl ?_; intro a1 cc1 w6 hO; have HO := hide hO; clear hO)
 have HT := hide (stabG_any (W := w1) (l ++ [(⟨s.data.toList, false, 0, d, 0⟩ : Fi)]) _ w6 HO.out (fun f hf => by
  rcases List.mem_append.1 hf with h | h
  ·have := HS.out.1 f h; omega
  ·rw [List.mem_singleton.1 h]; show s.data.toList.length ≤ 1000; omega) (by rw [List.length_append]; have := HS.out.2; simp only [List.length_singleton]; omega))
 go_wp2_with (go_at_call 40; refine HT.out.mono ?_; rintro r w7 ⟨rfl, k7⟩; have H7 := hide k7; clear k7 HT)
 go_ret2
 obtain ⟨l9, h1, h2, h3⟩ := H7.out
 rw [HD.out l9 h1 h2] at h3
 exact ⟨_, rfl, own_base h3 HB.out.2⟩
set_option maxHeartbeats 4000000 in
set_option maxRecDepth 100000 in
theorem doNo_any (l : List Fi) (u : Value) (k : Int) (s d : ByteArray) (w : World) (hl : RowsAt Fi.cs 5 w u l) (hN : Nice u) (hn : l.length ≤ 50000) (hs : s.size ≤ 500) (hm : mayB l k s = false) :
  Calls Tryz.prog 14 #[u, .agg #[.int .i64 k, .string s, .string d]] w fun e w' => ∃ v, e = .returned (.tuple #[v, .bool false]) ∧ OwnR Fi.cs 5 51 w v l w' := by
 have k1 := (Below.refl _ w).alloc (Nat.le_refl _) (.cells #[.int .i64 k, .string s, .string d] 37)
 have hB := heap_alloc_new w (.cells #[.int .i64 k, .string s, .string d] 37)
 obtain ⟨w1, hw1⟩ : ∃ w1, w1 = w.alloc (.cells #[.int .i64 k, .string s, .string d] 37) := ⟨_, rfl⟩
 have HC := hide (cloneFi_any l u w1 (by rw [hw1]; exact hl.below k1) hN hn)
 have HM := hide (fun v (y : World) (h : RowsAt Fi.cs 5 y v l) => may_any l v k s d y h (by omega) hs)
 simp only [hm] at HM
 have HB : Hid (w1.heap[w.heap.size]? = some (.cells #[.int .i64 k, .string s, .string d] 37 (0, 0)) ∧ Below w.heap.size w w1) := by rw [hw1]; exact ⟨hB, k1⟩
 clear hl hN hn hs hm k1 hB
 go_enter Tryz.func14, Tryz.ntmps14
 go_upto_region 1 with fail
 rw [← hw1]
 clear hw1
 go_upto_region 2 with (go_at_call 36; refine HC.out.mono ?_; rintro r w2 ⟨v1, rfl, ho⟩; have H1 := hide ho; clear ho HC)
 have HB2 : Hid (w2.heap[w.heap.size]? = some (.cells #[.int .i64 k, .string s, .string d] 37 (0, 0))) := (H1.out.below.block _ (Array.getElem?_eq_some_iff.1 HB.out.1).1).trans HB.out.1
 have HM2 := hide (HM.out v1 w2 (H1.out.rows Fi.cs_length))
 clear HM
 go_wp2_with (first
  | (refine wpList_load_row rfl 37 _ rfl _ rfl _ _ _ _ HB2.out Tryz.underlying37 rfl (by kernel_rfl) ?_)
  | (go_at_call 37; refine HM2.out.mono ?_; rintro r w3 ⟨rfl, k3⟩; have K3 := hide k3; clear k3 HM2))
 go_ret2
 have h3 := H1.out.step K3.out
 exact ⟨_, rfl, own_base h3 HB.out.2⟩
theorem planDo_any (l : List Fi) (u : Value) (t : Pt) (w : World) (hl : RowsAt Fi.cs 5 w u l) (hN : Nice u) (hi : Img1 l) (hp : ∀ f ∈ l, f.path.length ≤ 500) (hn : l.length ≤ 50000) (hs : t.path.length ≤ 500) :
  Calls Tryz.prog 14 #[u, .agg t.cs.toArray] w fun e w' => ∃ v, e = .returned (.tuple #[v, .bool (mayB l t.kind ⟨t.path.toArray⟩)]) ∧ OwnR Fi.cs 5 51 w v (if mayB l t.kind ⟨t.path.toArray⟩ then doF l t else l) w' := by
 obtain ⟨k, p, d⟩ := t
 have hsz : (⟨p.toArray⟩ : ByteArray).size ≤ 500 := by show p.toArray.size ≤ 500; simpa using hs
 cases hm : mayB l k ⟨p.toArray⟩ with
 | false => exact doNo_any l u k ⟨p.toArray⟩ d w hl hN hn hsz hm
 | true =>
  have hk : k = 1 ∨ k = 2 ∨ k = 3 ∨ k = 4 := by
   unfold mayB at hm
   by_cases h1 : k = 1
   ·exact .inl h1
   ·by_cases h2 : k = 2
    ·exact .inr (.inl h2)
    ·by_cases h3 : k = 3
     ·exact .inr (.inr (.inl h3))
     ·by_cases h4 : k = 4
      ·exact .inr (.inr (.inr h4))
      ·rw [if_neg h1, if_neg h2, if_neg h3, if_neg h4] at hm
       cases hm
  have hsp : ∀ b, (lkP l (p, b)).isSome = true → ∃ i : Nat, spotP l (p, b) = (i : Int) := fun b h => by
   rcases spot_cases l (p, b) with h1 | h1
   ·exact h1
   ·have := spotP_has l (p, b)
    rw [h1, h] at this
    cases this
  have hno : ∀ b, (lkP l (p, b)).isSome = false → spotP l (p, b) = -1 := fun b h => by
   rcases spot_cases l (p, b) with ⟨i, h1⟩ | h1
   ·have := spotP_has l (p, b)
    rw [h1, h] at this
    simp at this
   ·exact h1
  have hm2 := hm
  unfold mayB at hm2
  simp only at hm2
  rcases hk with rfl | rfl | rfl | rfl
  ·simp only [reduceIte, Bool.and_eq_true] at hm2
   obtain ⟨i, h⟩ := hsp false hm2.1
   have h9 := do1_any l u ⟨p.toArray⟩ d w hl hN hi hp hn hsz hm i h
   simp only at h9
   exact h9
  ·simp only [reduceIte, Int.reduceEq, Bool.and_eq_true] at hm2
   obtain ⟨i, h⟩ := hsp true hm2.1.1
   have h9 := do2_any l u ⟨p.toArray⟩ d w hl hN hi hp hn hsz hm i h
   simp only at h9
   exact h9
  ·simp only [reduceIte, Int.reduceEq, Bool.and_eq_true, Bool.not_eq_true'] at hm2
   have h9 := do3_any l u ⟨p.toArray⟩ d w hl hN hi hp hn hsz hm (hno true hm2.2.1)
   simp only at h9
   exact h9
  ·rcases spot_cases l (p, false) with ⟨i, h⟩ | h
   ·have h9 := do4f_any l u ⟨p.toArray⟩ d w hl hN hi hp hn hsz hm i h
    simp only at h9
    exact h9
   ·have h9 := do4n_any l u ⟨p.toArray⟩ d w hl hN hi hp hn hsz hm h
    simp only at h9
    exact h9
end Go.Proofs.YtnbhchdaobimmaaGreatDoor
/- The image of a tree: each path may be, and has its folder; of no program text but the law's tree. -/
namespace Go.Pln
open Go.RowKit Go.Img Go.Opn Go.Names
open Go.Mov hiding fold
theorem met_none {T : Ths} {k : Int} {f : List UInt8} {y : Fi} (h : Go.Img.Met T k f y) (hk : kidsOf T k = []) : False := by
 cases h with
 | here hy => rw [hk] at hy; obtain ⟨x, hx, _⟩ := mem_named hy; cases hx
 | deep hz _ => rw [hk] at hz; obtain ⟨x, hx, _⟩ := mem_named hz; cases hx
theorem met_home {T : Ths} (hf : Fine T) (hd : Dirs T) (hl : T.length ≤ 900) {k : Int} {f : List UInt8} {y : Fi} (h : Go.Img.Met T k f y) :
  ∃ d n, y.path = join d n ∧ 47 ∉ n ∧ (d = f ∨ ∃ g, Go.Img.Met T k f g ∧ g.dir = true ∧ g.path = d) := by
 induction h with
 | @here k f y hy =>
  have hk : (kidsOf T k).length ≤ 900 := Nat.le_trans (List.length_filter_le _ _) hl
  obtain ⟨p, hp, rfl⟩ := named_at hy
  have hleg := asg_legal ((kidsOf T k).map nameOf) (by rw [List.length_map]; exact hk) p.2 (List.of_mem_zip hp).2
  exact ⟨f, p.2, (join_head f p.2).symm, slash_free hleg, .inl rfl⟩
 | @deep k f z y hz hm ih =>
  obtain ⟨d, n, h1, h2, h3⟩ := ih
  refine ⟨d, n, h1, h2, .inr ?_⟩
  rcases h3 with h3 | ⟨g, h4, h5, h6⟩
  ·refine ⟨z, .here hz, ?_, h3.symm⟩
   cases e : z.dir with
   | true => rfl
   | false =>
    exfalso
    obtain ⟨x, hx, e1, e2⟩ := named_thing hz
    have := kids_none hf hd hx (by rw [e2, e])
    rw [e1] at this
    exact met_none hm this
  ·exact ⟨g, .deep hz h4, h5, h6⟩
theorem up_join {d n : List UInt8} (h : 47 ∉ n) : up (join d n) = d := by
 unfold up
 rw [(split_join h).1]
theorem img_good {T : Ths} (hf : Fine T) (hd : Dirs T) (hl : T.length ≤ 900) (h1 : Img1 (img T)) : Good (img T) := by
 refine ⟨h1, fun y hy => ?_⟩
 have hm : ∀ y, y ∈ img T ↔ Go.Img.Met T 0 [] y := doc_met hf hd hl 240 0 [] (by simp) (by simp)
 obtain ⟨d, n, e, hn, h3⟩ := met_home hf hd hl ((hm y).1 hy)
 refine placed_iff.2 ⟨path_okB ((img_paths hf hd hl).1 y hy), ?_⟩
 rw [e, up_join hn]
 rcases h3 with h3 | ⟨g, h4, h5, h6⟩
 ·exact .inl h3
 ·exact .inr ⟨g, (hm g).2 h4, by unfold pk; rw [h5, h6]⟩
/-- What stands behind so many steps. -/
def behind : List Fi → List Pt → List Fi
 | l, [] => l
 | l, s :: r => behind (doF l s) r
theorem behind_snoc : ∀ (r : List Pt) (l : List Fi) (s : Pt), behind l (r ++ [s]) = doF (behind l r) s
 | [], _, _ => rfl
 | a :: r, l, s => behind_snoc r (doF l a) s
/-- Behind the first of the steps, each done when it came, the rest are what is left. -/
theorem behind_steps {want : List Fi} (hw : Good want) : ∀ (i : Nat) {now : List Fi}, Good now → i ≤ (betw now want).length → Good (behind now ((betw now want).take i)) ∧ betw (behind now ((betw now want).take i)) want = (betw now want).drop i
 | 0, _, h, _ => ⟨h, rfl⟩
 | i + 1, now, h, hi => by
  cases hb : betw now want with
  | nil => rw [hb] at hi; simp at hi
  | cons s r =>
   obtain ⟨_, h2, h3⟩ := step_one h hw hb
   rw [hb] at hi
   have ih := behind_steps hw i h2 (by rw [h3]; simpa using hi)
   rw [h3] at ih
   exact ih
theorem behind_may {now want : List Fi} (hn : Good now) (hw : Good want) {i : Nat} {s : Pt} (hs : (betw now want)[i]? = some s) :
  mayB (behind now ((betw now want).take i)) s.kind ⟨s.path.toArray⟩ = true ∧ doF (behind now ((betw now want).take i)) s = behind now ((betw now want).take (i + 1)) := by
 obtain ⟨hi, e⟩ := List.getElem?_eq_some_iff.1 hs
 obtain ⟨h1, h2⟩ := behind_steps hw i hn (by omega)
 rw [List.drop_eq_getElem_cons hi, e] at h2
 refine ⟨(step_one h1 hw h2).1, ?_⟩
 rw [List.take_succ_eq_append_getElem hi, e, behind_snoc]
/-- How long its paths and it may be. -/
structure Short (l : List Fi) (n : Nat) : Prop where
 path : ∀ f ∈ l, f.path.length ≤ 238
 len : l.length ≤ n
theorem Short.doF {l : List Fi} {n : Nat} (h : Short l n) {s : Pt} (hs : s.path.length ≤ 238) : Short (doF l s) (n + 1) := by
 have h1 : ∀ f ∈ Pln.rest l (s.path, s.dir), f.path.length ≤ 238 := fun f hf => h.path f (mem_rest.1 hf).1
 have h2 : (Pln.rest l (s.path, s.dir)).length ≤ n := Nat.le_trans (List.length_filter_le _ _) h.len
 unfold Pln.doF
 split
 ·refine ⟨fun f hf => ?_, ?_⟩
  ·rcases mem_insF.1 hf with h3 | h3
   ·rw [h3]; exact hs
   ·exact h1 f h3
  ·rw [(insF_perm _ _).length_eq, List.length_cons]
   omega
 ·exact ⟨h1, by omega⟩
theorem behind_short : ∀ (r : List Pt) {l : List Fi} {n : Nat}, Short l n → (∀ s ∈ r, s.path.length ≤ 238) → Short (behind l r) (n + r.length)
 | [], _, _, h, _ => h
 | s :: r, l, n, h, hr => by
  have := behind_short r (h.doF (hr s (by simp))) fun t ht => hr t (by simp [ht])
  rw [List.length_cons, show n + (r.length + 1) = n + 1 + r.length by omega]
  exact this
theorem betw_paths {now want : List Fi} (hn : ∀ f ∈ now, f.path.length ≤ 238) (hw : ∀ f ∈ want, f.path.length ≤ 238) : ∀ s ∈ betw now want, s.path.length ≤ 238 := fun s hs => by
 unfold betw betA betB betC at hs
 rcases List.mem_append.1 hs with hs | hs
 ·rcases List.mem_append.1 hs with hs | hs
  ·obtain ⟨f, hf, rfl⟩ := List.mem_map.1 hs
   exact hn f (List.mem_reverse.1 (List.mem_filter.1 hf).1)
  ·obtain ⟨f, hf, rfl⟩ := List.mem_map.1 hs
   exact hw f (List.mem_filter.1 hf).1
 ·obtain ⟨f, hf, rfl⟩ := List.mem_map.1 hs
  exact hw f (List.mem_filter.1 hf).1
theorem betw_len {now want : List Fi} : (betw now want).length ≤ now.length + want.length + want.length := by
 have h1 := Go.Proofs.YtnbhchdaobimmaaGreatDoor.betB_len now want
 have h2 := Go.Proofs.YtnbhchdaobimmaaGreatDoor.betC_len now want
 have h3 : (betA now want).length ≤ now.length := by
  unfold betA
  rw [List.length_map]
  exact Nat.le_trans (List.length_filter_le _ _) (Nat.le_of_eq List.length_reverse)
 unfold betw
 rw [List.length_append, List.length_append]
 omega
end Go.Pln
namespace Go.Proofs.YtnbhchdaobimmaaGreatDoor
open Go.RowKit Go.Img Go.Pln Go.Shelf Go.Rws Go.MapInt Go.Opn
open Go.Mov hiding fold
variable {W v : World} {b : Nat} {tv : Value} {l : List En} {u : Int}
theorem Tg.good (h : Tg W b tv l u v) : Pln.Good (img (ths [] l)) := by
 obtain ⟨h1, h2, h3, _⟩ := h.fine
 exact img_good h1 h2 (by omega) h.img1
end Go.Proofs.YtnbhchdaobimmaaGreatDoor
/- Steps are compared. -/
namespace Go.Pln
open Go.RowKit
def ptEq (a b : Pt) : Bool := a.kind == b.kind && ((⟨a.path.toArray⟩ : ByteArray).toList == (⟨b.path.toArray⟩ : ByteArray).toList && (a.dg.toList == b.dg.toList && true))
theorem ptEq_self (a : Pt) : ptEq a a = true := by simp [ptEq]
end Go.Pln
namespace Go.Proofs.YtnbhchdaobimmaaGreatDoor
open Go.RowKit Go.Img Go.Pln Go.Wire Go.Stamp Go.Opn
theorem eq_pt (a b : Pt) (w : World) : (Op.equalIn 10000 37 (.agg a.cs.toArray) (.agg b.cs.toArray)).run Tryz.prog w = .ok (ptEq a b) w := by
 unfold Pt.cs
 rw [run_equalIn_agg w 9999 37 _ _ (by unfold Program.fieldsOf; rw [Tryz.underlying37]) (by kernel_rfl)]
 unfold Program.fieldsOf
 rw [Tryz.underlying37]
 refine eq_step (x := .int .i64 a.kind) (y := .int .i64 b.kind) (by decide) (by go_simp) (by go_simp) (run_equalIn_int w _ _ _ _ _ _ Tryz.underlying3) ?_
 refine eq_step (x := .string ⟨a.path.toArray⟩) (y := .string ⟨b.path.toArray⟩) (by decide) (by go_simp) (by go_simp) (run_equalIn_string w _ _ _ _ Tryz.underlying9) ?_
 refine eq_step (x := .string a.dg) (y := .string b.dg) (by decide) (by go_simp) (by go_simp) (run_equalIn_string w _ _ _ _ Tryz.underlying9) ?_
 rfl
theorem guardPt : Tryz.prog.eqGuardType Tryz.prog.depth 37 = false := by kernel_rfl
theorem neq_pt {o : Oper} {a : Act} {x y : Operand} {t : TypeId} (ho : o.op = .binOp .neq 37 x y t) (p : Pt) (hx : a.eval x = .agg p.cs.toArray) (hy : a.eval y = .agg p.cs.toArray) (w : World) :
  (execOp a.eval o).run Tryz.prog w = .ok (.value (.bool (!true))) w := by
 unfold execOp
 rw [ho]
 simp only [hx, hy, Sem.run_bind, run_eqGuard_agg w .neq 37 x y p.cs.toArray p.cs.toArray guardPt, Result.andThen_ok, run_neq_struct, eq_pt, ptEq_self]
 rfl
end Go.Proofs.YtnbhchdaobimmaaGreatDoor
/- The walk: from behind any of the steps the rest is what is left of them. -/
namespace Go.Proofs.YtnbhchdaobimmaaGreatDoor
open Go.RowKit Go.Img Go.Pln Go.Shelf Go.Rws Go.MapInt Go.Opn
open Go.Mov hiding fold
attribute [local go_sem] Oper.semAt_some
theorem Tg.keep {W v v' : World} {b : Nat} {tv : Value} {l : List En} {u : Int} (h : Tg W b tv l u v) (k : Below v.heap.size v v') : Tg W b tv l u v' := ⟨h.t.below k, h.row.below k, h.nice, h.each, h.few⟩
set_option maxHeartbeats 8000000 in
set_option maxRecDepth 100000 in
theorem planHalf_any (u : Value) (es : List Le) (v : Value) (fs : List Le) (at_ : Int) (w : World) (hR : RowsAt Le.cs 10 w u es) (hf : ∀ e ∈ es, e.Fits) (_hn : es.length ≤ maxLen) (hR2 : RowsAt Le.cs 10 w v fs) (hf2 : ∀ e ∈ fs, e.Fits) (_hn2 : fs.length ≤ maxLen) (hv : Vt w) :
  Calls Tryz.prog 4 #[u, v, .int .i64 at_] w fun r w' => r = .returned (.bool true) ∧ Below w.heap.size w w' := by
 have HT := hide (tree15_any es u w hR hf)
 have HU := hide (fun w1 (k : Below w.heap.size w w1) => tree15_any fs v w1 (hR2.below k) hf2)
 have HV := hide hv
 clear hR hf hv hR2 hf2
 go_enter Tryz.func4, Tryz.ntmps4
 go_upto_region 2 with (go_at_call 7; refine HT.out.mono ?_; rintro r w1 ⟨b, tv, l, n1, rfl, htg⟩; have I1 := hide htg; have HU2 := hide (HU.out w1 htg.t.k); clear htg HT HU)
 go_upto_region 3 with (go_at_call 7; refine HU2.out.mono ?_; rintro r w2 ⟨b2, tv2, l2, n2, rfl, htg⟩; have I2 := hide htg; clear htg HU2)
 have HW2 := hide (I1.out.t.k.trans (I2.out.t.k.mono I1.out.t.k.size))
 have HO1 := hide ((I1.out.keep I2.out.t.k).of (HV.out.below HV.out.size HW2.out))
 have HG1 := hide (And.intro I1.out.gi I1.out.good)
 have HG2 := hide (And.intro I2.out.gi I2.out.good)
 have HO2 : Hid (∀ w3, Below w2.heap.size w2 w3 → Calls Tryz.prog 8 #[.pointer (some ⟨b2, 0, none⟩)] w3 fun e w' => ∃ v', e = .returned v' ∧ OwnR Fi.cs 5 51 w3 v' (img (ths [] l2)) w') := fun w3 k => (I2.out.keep k).of (HV.out.below HV.out.size (HW2.out.trans (k.mono HW2.out.size)))
 obtain ⟨L1, hL1⟩ : ∃ L, L = img (ths [] l) := ⟨_, rfl⟩
 obtain ⟨L2, hL2⟩ : ∃ L, L = img (ths [] l2) := ⟨_, rfl⟩
 rw [← hL1] at HO1 HG1
 rw [← hL2] at HO2 HG2
 clear hL1 hL2 I1 I2 HV
 go_upto_region 4 with (first
  | (go_at_call 8; refine HO1.out.mono ?_; rintro r w3 ⟨v1, rfl, ho⟩; have J1 := hide ho; have HO3 := hide (HO2.out w3 ho.below); clear ho HO1 HO2)
  | (go_at_call 8; refine HO3.out.mono ?_; rintro r w4 ⟨v2, rfl, ho⟩; have J2 := hide ho; clear ho HO3))
 have HW4 := hide (HW2.out.trans ((J1.out.below.trans (J2.out.below.mono J1.out.below.size)).mono HW2.out.size))
 have HR1 := hide ((J1.out.rows Fi.cs_length).below J2.out.below)
 have HR2 := hide (J2.out.rows Fi.cs_length)
 have HN1 := hide (And.intro J1.out.nice J2.out.nice)
 have hp1 : ∀ f ∈ L1, f.path.length ≤ 238 := HG1.out.1.short
 have hp2 : ∀ f ∈ L2, f.path.length ≤ 238 := HG2.out.1.short
 have HPp := hide (And.intro hp1 hp2)
 have hl1 := HG1.out.1.len
 have hl2 := HG2.out.1.len
 have HLl := hide (And.intro hl1 hl2)
 have HB := hide (between_any L1 L2 v1 v2 w4 HR1.out J1.out.nice ⟨HG1.out.1.srt, HG1.out.2.one.once⟩ (fun f hf => by have := hp1 f hf; omega) (by omega) HR2.out J2.out.nice ⟨HG2.out.1.srt, HG2.out.2.one.once⟩ (fun f hf => by have := hp2 f hf; omega) (by omega))
 clear hp1 hp2 hl1 hl2 J1 J2 HW2
 go_upto_region 5 with (go_at_call 9; refine HB.out.mono ?_; rintro r w5 ⟨o, rfl, ho⟩; obtain ⟨oa, oc, rfl⟩ := ho.form; have I5 := hide ho; clear ho HB)
 have HW5 := hide (HW4.out.trans (I5.out.below.mono HW4.out.size))
 have HLn : Hid ((betw L1 L2).length ≤ 180) := by
  have h1 := betw_len (now := L1) (want := L2)
  have := HLl.out
  show _ ≤ _
  omega
 have HPs := hide (betw_paths HPp.out.1 HPp.out.2)
 have HBe := hide (fun (i : Nat) (h : i ≤ (betw L1 L2).length) => behind_steps HG2.out.2 i HG1.out.2 h)
 have HBm := hide (fun (i : Nat) (s : Pt) (h : (betw L1 L2)[i]? = some s) => behind_may HG1.out.2 HG2.out.2 h)
 have HBs := hide (fun (i : Nat) => behind_short ((betw L1 L2).take i) (l := L1) (n := 60) ⟨HPp.out.1, HLl.out.1⟩ fun s hs => HPs.out s (List.mem_of_mem_take hs))
 obtain ⟨M, hM⟩ : ∃ M, M = betw L1 L2 := ⟨_, rfl⟩
 rw [← hM] at I5 HLn HPs HBe HBm HBs ⊢
 obtain ⟨N, hN⟩ : ∃ N, N = M.length := ⟨_, rfl⟩
 rw [← hN] at I5 HLn HBe ⊢
 have HN := hide hN
 have HRo := hide (I5.out.rows Pt.cs_length)
 have HR1' := hide (HR1.out.below I5.out.below)
 have HR2' := hide (HR2.out.below I5.out.below)
 clear hM hN HR1 HR2 HW4 HG1
 have hN1 : N ≤ 180 := HLn.out
 have hcap : N ≤ oc := by
  rcases I5.out.own.2 with ⟨h1, h2⟩ | ⟨j, cap, cur, h1, _, _, h3, _⟩
  ·rw [← HN.out] at h2; omega
  ·simp only [Value.slice.injEq] at h1; rw [← HN.out] at h3; omega
 clear I5
 go_upto_if 39 with fail
 go_cut [14] (fun v14 wx => ∃ n : Nat, v14 = .int .i64 n ∧ n ≤ N ∧ wx = w5)
 case first =>
  by_cases h0 : N = 0
  ·subst h0
   go_wp2_with fail
   go_meet
   exact ⟨0, rfl, Nat.le_refl _, rfl⟩
  ·have hNp : (0 : Int) < N := by omega
   have hN0 : ¬ (N : Int) = 0 := by omega
   obtain ⟨q, hq⟩ : ∃ q : Nat, (at_.tmod N + N).tmod N = q := by
    have h1 := Int.lt_tmod_of_pos at_ hNp
    have h3 := Int.tmod_nonneg (a := at_.tmod N + N) N (by omega)
    exact ⟨((at_.tmod N + N).tmod N).toNat, by omega⟩
   have hq2 : q < N := by have := Int.tmod_lt_of_pos (at_.tmod N + N) hNp; omega
   have hw1 : wrap64 (at_.tmod N) = at_.tmod N := by
    have h1 := Int.lt_tmod_of_pos at_ hNp
    have h2 := Int.tmod_lt_of_pos at_ hNp
    unfold wrap64; omega
   have hw2 : wrap64 (at_.tmod N + N) = at_.tmod N + N := by
    have h1 := Int.lt_tmod_of_pos at_ hNp
    have h2 := Int.tmod_lt_of_pos at_ hNp
    unfold wrap64; omega
   have hq180 : (q : Int) ≤ 180 := by omega
   go_wp2_with fail
   go_meet
   exact ⟨q, by first | rfl | simp [hq] | (congr 1; omega), by omega, rfl⟩
 obtain ⟨n, rfl, hn, hwc⟩ := hcut
 rw [← hwc] at HRo HR1' HR2' HW5
 clear hwc
 go_wp2_with fail
 go_loopw [11, 15, 16, 17] (fun v11 v15 v16 v17 wx => ∃ i : Nat, v15 = .int .i64 i ∧ i ≤ n ∧ Hid (Below wc.heap.size wc wx ∧ RowsAt Fi.cs 5 wx v11 (behind L1 (M.take i)) ∧ Nice v11)) (fun _ v15 _ _ _ => n - (intOf v15).toNat)
 case atStart => exact ⟨0, rfl, Nat.zero_le _, Below.refl _ _, HR1'.out, HN1.out.1⟩
 case round =>
  obtain ⟨i, rfl, hi, HI⟩ := hrel
  have h0 : (0 : Int) ≤ i := by omega
  by_cases hil : i < n
  ·obtain ⟨s, hs⟩ : ∃ s, M[i]? = some s := ⟨_, List.getElem?_eq_getElem (by rw [← HN.out]; omega)⟩
   obtain ⟨g, off, hga, hq, hcp, hgl, hrg⟩ := (HRo.out.below HI.out.1).at (fun e => by rw [e] at hs; cases hs)
   subst hga
   have hiI : (i : Int) < n := by omega
   have hiN : (i : Int) < N := by omega
   have hcI : (N : Int) ≤ oc := by omega
   have HRG := hide (hrg i s hs)
   obtain ⟨hb1, hb2⟩ := HBe.out i (by omega)
   obtain ⟨hm1, hm2⟩ := HBm.out i s hs
   have hsh := HBs.out i
   have hlt : (M.take i).length ≤ 180 := by rw [List.length_take]; omega
   have HD := hide (planDo_any (behind L1 (M.take i)) u11 s wr HI.out.2.1 HI.out.2.2 hb1.one (fun f hf => by have := hsh.path f hf; omega) (by have := hsh.len; omega) (by have := HPs.out s (List.mem_of_getElem? hs); omega))
   rw [hm1, if_pos rfl, hm2] at HD
   clear hs hq hcp hgl hrg hb1 hb2 hm1 hm2 hsh hlt
   go_wp2_with (first
    | (refine wpList_load_mid rfl 37 _ rfl g (off + i * 3) rfl s.cs _ HRG.out Tryz.underlying37 rfl infoPt ?_)
    | (go_at_call 14; refine HD.out.mono ?_; rintro r w7 ⟨v7, rfl, ho⟩; have K7 := hide ho; clear ho HD))
   go_roundw
   case rel => exact ⟨i + 1, by simp, by omega, HI.out.1.trans (K7.out.below.mono HI.out.1.size), K7.out.rows Fi.cs_length, K7.out.nice⟩
   case measure => simp [intOf]; omega
  ·obtain rfl : i = n := by omega
   have hltI : ¬ (i : Int) < i := by omega
   obtain ⟨hb1, hb2⟩ := HBe.out i hn
   have hsh := HBs.out i
   have hlt : (M.take i).length ≤ 180 := by rw [List.length_take]; omega
   have HB9 := hide (between_any (behind L1 (M.take i)) L2 u11 v2 wr HI.out.2.1 HI.out.2.2 ⟨hb1.one.srt, hb1.one.once⟩ (fun f hf => by have := hsh.path f hf; omega) (by have := hsh.len; omega) (HR2'.out.below HI.out.1) HN1.out.2 ⟨HG2.out.1.srt, HG2.out.2.one.once⟩ (fun f hf => by have := HPp.out.2 f hf; omega) (by have := HLl.out; omega))
   rw [hb2] at HB9
   clear hb1 hb2 hsh hlt
   have HW9 := hide (HW5.out.trans (HI.out.1.mono HW5.out.size))
   obtain ⟨R, hR⟩ : ∃ R, R = (M.drop i).length := ⟨_, rfl⟩
   have HRR := hide hR
   clear hR
   go_upto_region 16 with (go_at_call 9; refine HB9.out.mono ?_; rintro r w8 ⟨o8, rfl, ho⟩; obtain ⟨oa8, oc8, rfl⟩ := ho.form; have I8 := hide ho; clear ho HB9; rw [← HRR.out] at I8 ⊢)
   have hR := HRR.out
   have hRN : R + i = N := by rw [hR, List.length_drop, ← HN.out]; omega
   have hcap8 : R ≤ oc8 := by
    rcases I8.out.own.2 with ⟨h1, h2⟩ | ⟨j, cap, cur, h1, _, _, h3, _⟩
    ·rw [← hR] at h2; omega
    ·simp only [Value.slice.injEq] at h1; rw [← hR] at h3; omega
   have HR8 := hide (I8.out.rows Pt.cs_length)
   have HRs := hide ((HRo.out.below HI.out.1).below I8.out.below)
   have HW8 := hide (HW9.out.trans (I8.out.below.mono HW9.out.size))
   have HAw := hide (awake16_any w8)
   have hsub : (N : Int) - i = R := by omega
   have hne : ((R : Int) != R) = false := by simp
   clear hR I8 HI
   go_wp2_with (go_at_call 12; refine HAw.out.mono ?_; rintro r w9 ⟨rfl, k9⟩; have K9 := hide k9; clear k9 HAw)
   have HW10 := hide (HW8.out.trans (K9.out.mono HW8.out.size))
   have HR9 := hide (HR8.out.below K9.out)
   have HRt := hide (HRs.out.below K9.out)
   clear hsub hne HR8 HRs K9 HW8 HW9 HRo HR1' HR2'
   go_loopw [19] (fun v19 wx => ∃ j : Nat, v19 = .int .i64 j ∧ j ≤ R ∧ Hid (Below w9.heap.size w9 wx)) (fun v19 _ => R - (intOf v19).toNat)
   case atStart => exact ⟨0, rfl, Nat.zero_le _, Below.refl _ _⟩
   case round =>
    obtain ⟨j, rfl, hj, HJ⟩ := hrel
    have hj0 : (0 : Int) ≤ j := by omega
    by_cases hjl : j < R
    ·obtain ⟨s, hs⟩ : ∃ s, M[i + j]? = some s := ⟨_, List.getElem?_eq_getElem (by rw [← HN.out]; omega)⟩
     have hs2 : (M.drop i)[j]? = some s := by rw [List.getElem?_drop]; exact hs
     obtain ⟨g, off, hga, hq, hcp, hgl, hrg⟩ := HRt.out.at (fun e => by rw [e] at hs; cases hs)
     subst hga
     obtain ⟨g8, off8, hga8, hq8, hcp8, hgl8, hrg8⟩ := HR9.out.at (fun e => by rw [e] at hs2; cases hs2)
     subst hga8
     have HRG := hide (And.intro (hrg (i + j) s hs) hgl)
     have HRG8 := hide (And.intro (hrg8 j s hs2) hgl8)
     obtain ⟨q, hqe⟩ : ∃ q, q = i + j := ⟨_, rfl⟩
     rw [← hqe] at HRG
     have hjI : (j : Int) < R := by omega
     have hcI8 : (R : Int) ≤ oc8 := by omega
     have hcI : (N : Int) ≤ oc := by omega
     have hq0 : (0 : Int) ≤ (i : Int) + j := by omega
     have hq1 : (i : Int) + j < N := by omega
     have hq2 : ((i : Int) + j).toNat = q := by omega
     have hi180 : (i : Int) ≤ 180 := by omega
     have hj180 : (j : Int) ≤ 180 := by omega
     clear hs hs2 hq hcp hgl hrg hq8 hcp8 hgl8 hrg8 hqe
     go_upto_region 21 with fail
     refine QuietCalls.region (by kernel_rfl) (by kernel_rfl) ?_
     iterate 3 (first | go_big_quiet_step (fail) | quiet_step (fail))
     refine QuietCalls.loadMid rfl 37 _ rfl g8 (off8 + j * 3) rfl s.cs _ (fun v k => rangeAt_below HRG8.out.1 HRG8.out.2 (HJ.out.trans (k.mono HJ.out.size))) Tryz.underlying37 rfl infoPt ?_; simp only [Act.put, List.setIfInBounds_toArray, List.set_cons_succ, List.set_cons_zero]
     iterate 5 (first | go_big_quiet_step (fail) | quiet_step (fail))
     refine QuietCalls.loadMid rfl 37 _ rfl g (off + q * 3) rfl s.cs _ (fun v k => rangeAt_below HRG.out.1 HRG.out.2 (HJ.out.trans (k.mono HJ.out.size))) Tryz.underlying37 rfl infoPt ?_; simp only [Act.put, List.setIfInBounds_toArray, List.set_cons_succ, List.set_cons_zero]
     refine QuietCalls.hand rfl (.bool (!true)) (fun w => neq_pt rfl s rfl rfl w) ?_; simp only [Act.put, List.setIfInBounds_toArray, List.set_cons_succ, List.set_cons_zero]
     refine wpQuiet_nil ?_
     intro w11 k11
     have HJ2 := hide (HJ.out.trans (k11.mono HJ.out.size))
     clear k11 HJ
     go_wp2_with fail
     go_roundw
     case rel => exact ⟨j + 1, by simp, by omega, HJ2.out⟩
     case measure => simp [intOf]; omega
    ·obtain rfl : j = R := by omega
     have hjI : ¬ (j : Int) < j := by omega
     go_wp2_with fail
     go_ret
     exact ⟨rfl, HW10.out.trans (HJ.out.mono HW10.out.size)⟩
end Go.Proofs.YtnbhchdaobimmaaGreatDoor
