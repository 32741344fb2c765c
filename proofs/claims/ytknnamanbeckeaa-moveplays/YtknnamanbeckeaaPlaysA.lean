/- Several texts in one: MoveSpot, MoveFind, MoveFold, MoveRMake, RowsSet, MoveRDo, MoveRThings, MoveRKids. -/
import Derived.Test.YtknnamanbeckeaaMovPure
import Derived.Test.YtknnamanbeckeaaMoveRAdd
import Derived.Test.YtknnamanbeckeaaMoveVals
import Derived.BigQuiet
import Derived.Test.YtknnamanbeckeaaRowsAll
import Derived.BigRegion
import Derived.Test.YtknnamanbeckeaaMoveFew
import Derived.Test.YtknnamanbeckeaaMoveTwoAll
import Derived.Test.YtknnamanbeckeaaMoveKids
/- Things by their places, as the document finds them; plain. -/
namespace Go.Mov
open Go.RowKit Go.Opn Go.Stamp Go.MapInt
/-- The place of a number, or where it would stand. -/
def spot : Ths → Int → Nat
  | [], _ => 0
  | x :: r, k => if x.id < k then spot r k + 1 else 0
def here (l : Ths) (k : Int) : Bool := match l[spot l k]? with | some x => x.id == k | none => false
theorem spot_le (k : Int) : ∀ l : Ths, spot l k ≤ l.length
  | [] => Nat.le_refl _
  | x :: r => by
    unfold spot
    split
    · have := spot_le k r; simp; exact this
    · exact Nat.zero_le _
theorem spot_at {l : Ths} {k : Int} {x : Th} (h : l[spot l k]? = some x) : ¬ x.id < k := by
  induction l with
  | nil => cases h
  | cons y r ih =>
    unfold spot at h
    split at h
    · exact ih (by simpa using h)
    · rename_i hn
      simp at h
      rw [← h]; exact hn
theorem spot_ahead {l : Ths} {k : Int} : ∀ {i : Nat} {x : Th}, i < spot l k → l[i]? = some x → x.id < k := by
  induction l with
  | nil => intro i x h; exact absurd h (Nat.not_lt_zero _)
  | cons y r ih =>
    intro i x h hx
    unfold spot at h
    split at h
    · rename_i hy
      cases i with
      | zero => simp at hx; rw [← hx]; exact hy
      | succ i => exact ih (i := i) (Nat.lt_of_succ_lt_succ h) (by simpa using hx)
    · exact absurd h (Nat.not_lt_zero _)
theorem look_here {l : Ths} (hr : Rises l) {k : Int} {x : Th} (h : look l k = some x) : l[spot l k]? = some x := by
  induction l with
  | nil => cases h
  | cons y r ih =>
    have hn := List.pairwise_cons.1 hr
    unfold look at h
    unfold spot
    split at h
    · rename_i e
      cases h
      rw [if_neg (by omega)]; rfl
    · rename_i e
      have := look_mem h
      have h2 := hn.1 x this.1
      rw [if_pos (by omega)]
      simpa using ih hn.2 h
theorem here_look {l : Ths} (hr : Rises l) (k : Int) : here l k = (look l k).isSome := by
  unfold here
  cases h : look l k with
  | some x =>
    rw [look_here hr h]
    simp [(look_mem h).2]
  | none =>
    cases h2 : l[spot l k]? with
    | none => rfl
    | some x =>
      have := look_none.1 h x (List.mem_iff_getElem?.2 ⟨_, h2⟩)
      simpa using this
theorem put_new {l : Ths} {x : Th} (h : look l x.id = none) : put l x = l.take (spot l x.id) ++ x :: l.drop (spot l x.id) := by
  induction l with
  | nil => rfl
  | cons y r ih =>
    unfold look at h
    split at h
    · cases h
    · rename_i e
      unfold put spot
      by_cases h1 : x.id < y.id
      · rw [if_pos h1, if_neg (by omega)]; rfl
      · rw [if_neg h1, if_neg e, if_pos (by omega), ih h]; rfl
theorem put_old {l : Ths} (hr : Rises l) {x y : Th} (h : look l x.id = some y) : put l x = l.set (spot l x.id) x := by
  induction l with
  | nil => cases h
  | cons z r ih =>
    have hn := List.pairwise_cons.1 hr
    unfold look at h
    unfold put spot
    split at h
    · rename_i e
      rw [if_neg (by omega), if_pos e, if_neg (by omega)]; rfl
    · rename_i e
      have h3 := hn.1 y (look_mem h).1
      have h4 := (look_mem h).2
      rw [if_neg (by omega), if_neg e, if_pos (by omega), ih hn.2 h]; rfl
/-- The document's way up: no further than the root, or the trash. -/
def climbs : Nat → Ths → Int → Int → Bool
  | 0, _, _, _ => false
  | n + 1, l, k, o => if k ≤ 1 then false else if k = o then true else match look l k with | some x => climbs n l x.par o | none => false
theorem climbs_below {l : Ths} (hf : Fine l) {o : Int} (ho : 1 < o) : ∀ (n : Nat) (k : Int), UpEnds n l k → climbs (n + 1) l k o = below n l k o
  | 0, k, h => by
    have hl : look l k = none := h
    unfold climbs below wayUp
    rw [hl]
    by_cases h1 : k ≤ 1
    · rw [if_pos h1]
      have : o ≠ k := by omega
      simp [this]
    · rw [if_neg h1]
      by_cases h2 : k = o
      · rw [if_pos h2]; simp [h2]
      · rw [if_neg h2]
        have : o ≠ k := fun e => h2 e.symm
        simp [this]
  | n + 1, k, h => by
    unfold climbs below wayUp
    by_cases h1 : k ≤ 1
    · have e : o ≠ k := by omega
      rw [if_pos h1, hf.look_top h1]
      simp [e]
    · rw [if_neg h1]
      by_cases h2 : k = o
      · rw [if_pos h2]
        cases hl : look l k <;> simp [h2]
      · have e : o ≠ k := fun e => h2 e.symm
        rw [if_neg h2]
        cases hl : look l k with
        | none => simp [e]
        | some x =>
          obtain ⟨m, e1, h3⟩ := h.step hl
          cases e1
          have := climbs_below hf ho n x.par h3
          unfold below at this
          show climbs (n + 1) l x.par o = (k :: wayUp n l x.par).contains o
          rw [this, List.contains_cons]
          simp [e]
/-- What is found at a number's place is a folder. -/
def dirAt (l : Ths) (k : Int) : Bool := match l[spot l k]? with | some x => x.dir | none => false
theorem dirAt_of {l : Ths} {k : Int} {x : Th} (h : l[spot l k]? = some x) : dirAt l k = x.dir := by unfold dirAt; rw [h]
theorem fold_here {l : Ths} (hr : Rises l) (k : Int) : fold l k = (k == 0 || (here l k && dirAt l k)) := by
  unfold fold dirAt
  rw [here_look hr]
  cases h : look l k with
  | none => rfl
  | some x => rw [look_here hr h]; rfl
end Go.Mov
/- Contracts: where the document finds a thing. -/
namespace Go.Mov
open Go.RowKit
theorem th_cells (x : Th) : ∀ u ∈ x.cs, u.oneCell' = true := by
  intro u hu
  unfold Th.cs at hu
  simp only [List.mem_cons, List.not_mem_nil, or_false] at hu
  rcases hu with rfl | rfl | rfl | rfl | rfl | rfl <;> rfl
theorem ths_cells (es : List Th) : ∀ u ∈ es.flatMap Th.cs, u.oneCell' = true := fun u hu => by
  obtain ⟨s, _, h2⟩ := List.mem_flatMap.1 hu
  exact th_cells s u h2
end Go.Mov
namespace Go.Proofs.Ytknnamanbeckeaa
open Go.RowKit Go.Opn Go.Stamp Go.MapInt Go.Mov Go.Shelf Go.Rws
attribute [local go_sem] Oper.semAt_some
theorem infoRTh : (Try.prog.info? 80).map (·.size) = some 6 := by kernel_rfl
set_option maxHeartbeats 2000000 in
set_option maxRecDepth 100000 in
theorem find_any (l : Ths) (k : Int) (v : Value) (w : World) (hR : RowsAt Th.cs 6 w v l) (hl : l.length ≤ 100000) :
    Calls Try.prog 45 #[v, .int .u64 k] w fun r w' => r = .returned (.tuple #[.int .i64 (spot l k : Nat), .bool (here l k)]) ∧ Below w.heap.size w w' := by
  obtain ⟨la, lc, rfl⟩ := hR.form
  obtain ⟨p, hp⟩ : ∃ p, p = spot l k := ⟨_, rfl⟩
  have hpl : p ≤ l.length := hp ▸ spot_le k l
  have HP := hide hp
  have HR := hide hR
  rw [← hp]
  clear hR hp
  go_enter Try.func45, Try.ntmps45
  go_wp2_with fail
  go_loopw [6] (fun v6 wr => wr = w ∧ ∃ i : Nat, v6 = .int .i64 i ∧ i ≤ p) (fun v6 _ => p - (intOf v6).toNat)
  case atStart => exact ⟨rfl, 0, rfl, Nat.zero_le _⟩
  case round =>
    obtain ⟨rfl, i, rfl, hi⟩ := hrel
    have h0 : (0 : Int) ≤ i := by omega
    by_cases hil : i < l.length
    · obtain ⟨x, hx⟩ : ∃ x, l[i]? = some x := ⟨_, List.getElem?_eq_getElem (by omega)⟩
      obtain ⟨g, off, hla, _, _, hgl, hrg⟩ := HR.out.at (fun e => by rw [e] at hx; cases hx)
      subst hla
      have hiI : (i : Int) < l.length := by omega
      have hd : decide ((i : Int) < l.length) = true := decide_eq_true hiI
      have c0 := hrg i x hx 0 _ rfl
      rw [Nat.add_zero] at c0
      by_cases hip : i < p
      · have hx1 : decide (x.id < k) = true := decide_eq_true (spot_ahead (HP.out ▸ hip) hx)
        clear hx hrg
        go_wp2_with fail
        go_roundw
        case rel => exact ⟨trivial, i + 1, by simp, by omega⟩
        case measure => simp [intOf]; omega
      · obtain rfl : p = i := by omega
        have hx1 : decide (x.id < k) = false := decide_eq_false (spot_at (HP.out ▸ hx))
        have hh : here l k = (x.id == k) := by unfold here; rw [← HP.out, hx]
        clear hx hrg
        go_wp2_with fail
        go_quiet (fail)
        go_wp2_with fail
        refine bodyPost_ret (results_tmp2 Try.results45 _ _ _) rfl ?_
        rw [hh]
        exact ⟨rfl, rfl, rfl, rfl, Nat.le_refl _, fun _ _ => rfl⟩
    · have hpi : p = i := by omega
      have hd : decide ((i : Int) < l.length) = false := decide_eq_false (by omega)
      have hh : here l k = false := by unfold here; rw [← HP.out, List.getElem?_eq_none (by omega)]
      go_wp2_with fail
      go_quiet (fail)
      go_wp2_with fail
      refine bodyPost_ret (results_tmp2 Try.results45 _ _ _) rfl ?_
      rw [hh, hpi]
      exact ⟨rfl, rfl, rfl, rfl, Nat.le_refl _, fun _ _ => rfl⟩
end Go.Proofs.Ytknnamanbeckeaa
/- Contracts: is something a folder, and does a thing stand below another one, by the document. -/
namespace Go.Proofs.Ytknnamanbeckeaa
open Go.RowKit Go.Opn Go.Stamp Go.MapInt Go.Mov Go.Shelf Go.Rws
attribute [local go_sem] Oper.semAt_some
set_option maxHeartbeats 2000000 in
set_option maxRecDepth 100000 in
theorem rfold_any (l : Ths) (k : Int) (v : Value) (w : World) (hr : Rises l) (hR : RowsAt Th.cs 6 w v l) (hl : l.length ≤ 100000) :
    Calls Try.prog 46 #[v, .int .u64 k] w fun r w' => r = .returned (.bool (fold l k)) ∧ Below w.heap.size w w' := by
  obtain ⟨la, lc, rfl⟩ := hR.form
  have H := hide (find_any l k _ w hR hl)
  have HR := hide hR
  rw [fold_here hr]
  obtain ⟨p, hp⟩ : ∃ p, p = spot l k := ⟨_, rfl⟩
  obtain ⟨q, hq⟩ : ∃ q, q = here l k := ⟨_, rfl⟩
  have HP := hide hp
  have HQ := hide hq
  rw [← hp, ← hq] at H
  rw [← hq]
  obtain ⟨dd, hdd⟩ : ∃ dd, dd = dirAt l k := ⟨_, rfl⟩
  rw [← hdd]
  clear hR hp hq
  go_enter Try.func46, Try.ntmps46
  go_upto_region 2 with (go_at_call 45; refine H.out.mono ?_; rintro e w1 ⟨rfl, hb⟩; have HB := hide hb; clear H hb)
  by_cases hk : k = 0
  · have hd : decide (k = 0) = true := decide_eq_true hk
    go_wp2_with fail
    refine bodyPost_ret (results_tmp Try.results46 _ _ _) rfl ?_
    rw [hk]
    exact ⟨rfl, HB.out⟩
  · have hd : decide (k = 0) = false := decide_eq_false hk
    have hk2 : (k == 0) = false := by simpa using hk
    cases q with
    | false =>
      go_wp2_with fail
      refine bodyPost_ret (results_tmp Try.results46 _ _ _) rfl ?_
      rw [hk2]
      exact ⟨rfl, HB.out⟩
    | true =>
      obtain ⟨x, hx⟩ : ∃ x, l[p]? = some x := by
        have := HQ.out
        unfold here at this
        rw [← HP.out] at this
        cases h : l[p]? with
        | none => rw [h] at this; cases this
        | some x => exact ⟨x, rfl⟩
      obtain ⟨g, off, hla, _, _, hgl, hrg⟩ := (HR.out.below HB.out).at (fun e => by rw [e] at hx; cases hx)
      subst hla
      have hpl := (List.getElem?_eq_some_iff.1 hx).1
      have hiI : (p : Int) < l.length := by omega
      have h0 : (0 : Int) ≤ p := by omega
      have c3 := hrg p x hx 3 _ rfl
      rw [dirAt_of (HP.out ▸ hx)] at hdd
      subst hdd
      clear hrg hx
      go_wp2_with fail
      refine bodyPost_ret (results_tmp Try.results46 _ _ _) rfl ?_
      exact ⟨rfl, HB.out⟩
set_option maxHeartbeats 2000000 in
set_option maxRecDepth 100000 in
theorem rbelow_any (l : Ths) (k o : Int) (v : Value) (w : World) (hf : Fine l) (ho : 1 < o) (hR : RowsAt Th.cs 6 w v l) (hl : l.length ≤ 100000) :
    Calls Try.prog 47 #[v, .int .u64 k, .int .u64 o] w fun r w' => r = .returned (.bool (below l.length l k o)) ∧ Below w.heap.size w w' := by
  obtain ⟨la, lc, rfl⟩ := hR.form
  have HC := hide (climbs_below hf ho l.length k (hf.ends_len k))
  have HF := hide (fun (k : Int) (w' : World) (hb : Below w.heap.size w w') => find_any l k _ w' (hR.below hb) hl)
  have HR := hide hR
  have HFI := hide hf
  rw [← HC.out]
  clear hR HC hf ho
  go_enter Try.func47, Try.ntmps47
  go_wp2_with fail
  go_loopw [1, 7] (fun v1 v7 wr => ∃ (i : Nat) (j : Int), v7 = .int .i64 i ∧ v1 = .int .u64 j ∧ i ≤ l.length + 1 ∧ climbs (l.length + 1) l k o = climbs (l.length + 1 - i) l j o ∧ Hid (Below w.heap.size w wr)) (fun v1 v7 _ => l.length + 1 - (intOf v7).toNat)
  case atStart => exact ⟨0, k, rfl, rfl, Nat.zero_le _, rfl, Below.refl _ w⟩
  case round =>
    obtain ⟨i, j, rfl, rfl, hi, HC, HB⟩ := hrel
    have h0 : (0 : Int) ≤ i := by omega
    by_cases hil : i ≤ l.length
    · have hd : decide ((i : Int) ≤ l.length) = true := decide_eq_true (by omega)
      obtain ⟨m, hm⟩ : ∃ m, l.length + 1 - i = m + 1 := ⟨l.length - i, by omega⟩
      by_cases hj : 1 < j
      · have hd2 : decide (1 < j) = true := decide_eq_true hj
        by_cases hjo : j = o
        · have hd3 : decide (j = o) = true := decide_eq_true hjo
          have HJ := hide hjo
          subst hjo
          go_wp2_with fail
          refine bodyPost_ret (results_tmp Try.results47 _ _ _) rfl ?_
          first | rw [HC, hm] | skip
          unfold climbs
          rw [if_neg (by omega), if_pos rfl]
          exact ⟨rfl, HB.out⟩
        · have hd3 : decide (j = o) = false := decide_eq_false hjo
          have H1 := hide (HF.out j wr HB.out)
          obtain ⟨p, hp⟩ : ∃ p, p = spot l j := ⟨_, rfl⟩
          have HP := hide hp
          rw [← hp, here_look HFI.out.rises] at H1
          clear hp
          cases hlk : Mov.look l j with
          | none =>
            rw [hlk] at H1
            dsimp only [Option.isSome] at H1
            go_wp2_with (go_at_call 45; refine H1.out.mono ?_; rintro e w1 ⟨rfl, hb⟩; have HB2 := hide (HB.out.trans (hb.mono HB.out.size)); clear H1 hb)
            refine bodyPost_ret (results_tmp Try.results47 _ _ _) rfl ?_
            first | rw [HC, hm] | rw [hm] | skip
            unfold climbs
            rw [if_neg (by omega), if_neg hjo, hlk]
            exact ⟨rfl, HB2.out⟩
          | some x =>
            rw [hlk] at H1
            dsimp only [Option.isSome] at H1
            have hx := look_here HFI.out.rises hlk
            rw [← HP.out] at hx
            obtain ⟨g, off, hla, _, _, hgl, hrg⟩ := HR.out.at (fun e => by rw [e] at hx; cases hx)
            subst hla
            have hpl := (List.getElem?_eq_some_iff.1 hx).1
            have hiI : (p : Int) < l.length := by omega
            have h0p : (0 : Int) ≤ p := by omega
            have HG : Hid (∀ w1, Below w.heap.size w w1 → w1.cell? ⟨g, off + p * 6 + 1, none⟩ = some (.int .u64 x.par)) := fun w1 hb => (rangeAt_below (hrg p x hx) hgl hb) 1 _ rfl
            have HX := hide hlk
            clear hrg hx hlk
            go_wp2_with (go_at_call 45; refine H1.out.mono ?_; rintro e w1 ⟨rfl, hb⟩; have HB2 := hide (HB.out.trans (hb.mono HB.out.size)); clear H1 hb; have c1 := HG.out w1 HB2.out)
            go_roundw
            case rel =>
              refine ⟨i + 1, x.par, by simp, rfl, by omega, ?_, HB2.out⟩
              rw [HC, hm, show l.length + 1 - (i + 1) = m by omega]
              conv => lhs; unfold climbs
              rw [if_neg (by omega), if_neg hjo, HX.out]
            case measure => simp [intOf]; omega
      · have hd2 : decide (1 < j) = false := decide_eq_false hj
        go_wp2_with fail
        refine bodyPost_ret (results_tmp Try.results47 _ _ _) rfl ?_
        first | rw [HC, hm] | rw [hm] | skip
        unfold climbs
        rw [if_pos (by omega)]
        exact ⟨rfl, HB.out⟩
    · have hd : decide ((i : Int) ≤ l.length) = false := decide_eq_false (by omega)
      go_wp2_with fail
      refine bodyPost_ret (results_tmp Try.results47 _ _ _) rfl ?_
      first | rw [HC, show l.length + 1 - i = 0 by omega] | rw [show l.length + 1 - i = 0 by omega]
      exact ⟨rfl, HB.out⟩
end Go.Proofs.Ytknnamanbeckeaa
/- Contract: what a create makes, by the document. -/
namespace Go.Mov
open Go.RowKit Go.Rws
/-- What the document's Do leaves: the row of the things behind it. -/
structure Rt (w : World) (v : Value) (l : Ths) (w' : World) : Prop where
  row : RowsAt Th.cs 6 w' v l
  nice : Nice v
  k : Below w.heap.size w w'
end Go.Mov
namespace Go.Proofs.Ytknnamanbeckeaa
open Go.RowKit Go.Opn Go.Stamp Go.MapInt Go.Mov Go.Shelf Go.Rws
attribute [local go_sem] Oper.semAt_some
theorem sliceHiTN (x : World) : (Instr.sliceAt 49 (.slice none 0 0) none (some (.int .i64 0)) none).run Try.prog x = .ok (.slice none 0 0) x := by kernel_rfl
theorem sliceLoTN (x : World) : (Instr.sliceAt 49 (.slice none 0 0) (some (.int .i64 0)) none none).run Try.prog x = .ok (.slice none 0 0) x := by kernel_rfl
set_option maxRecDepth 100000 in
theorem sliceHiT (g off n c k : Nat) (x : World) (hc : k ≤ c) : (Instr.sliceAt 49 (.slice (some ⟨g, off, none⟩) n c) none (some (.int .i64 (k : Int))) none).run Try.prog x = .ok (.slice (some ⟨g, off, none⟩) k c) x := by
  have h1 : (k : Int) ≤ c := by omega
  go_simp
set_option maxRecDepth 100000 in
theorem sliceLoT (g off n c k : Nat) (x : World) (hk : k ≤ n) (hc : n ≤ c) : (Instr.sliceAt 49 (.slice (some ⟨g, off, none⟩) n c) (some (.int .i64 (k : Int))) none none).run Try.prog x = .ok (restV (some ⟨g, off, none⟩) n c k 6) x := by
  have h1 : (k : Int) ≤ c := by omega
  have h2 : (k : Int) ≤ n := by omega
  have h3 : (n : Int) ≤ c := by omega
  unfold restV
  by_cases e : c = k
  · subst e
    rw [if_pos rfl]
    go_simp
  · rw [if_neg e]
    have e2 : ¬ (c : Int) = k := by omega
    go_simp
theorem sliceHiTA {a : Option Addr} {n c k : Nat} (h : Nice (.slice a n c)) (hk : k ≤ n) (x : World) : (Instr.sliceAt 49 (.slice a n c) none (some (.int .i64 (k : Int))) none).run Try.prog x = .ok (.slice a k c) x := by
  have hc := h.cap
  rcases h with h | ⟨g, off, n', c', h, _⟩
  · simp only [Value.slice.injEq] at h
    obtain ⟨rfl, rfl, rfl⟩ := h
    obtain rfl : k = 0 := by omega
    exact sliceHiTN x
  · simp only [Value.slice.injEq] at h
    obtain ⟨rfl, rfl, rfl⟩ := h
    exact sliceHiT g off n c k x (by omega)
theorem sliceLoTA {a : Option Addr} {n c k : Nat} (h : Nice (.slice a n c)) (hk : k ≤ n) (x : World) : (Instr.sliceAt 49 (.slice a n c) (some (.int .i64 (k : Int))) none none).run Try.prog x = .ok (restV a n c k 6) x := by
  have hc := h.cap
  rcases h with h | ⟨g, off, n', c', h, _⟩
  · simp only [Value.slice.injEq] at h
    obtain ⟨rfl, rfl, rfl⟩ := h
    obtain rfl : k = 0 := by omega
    exact sliceLoTN x
  · simp only [Value.slice.injEq] at h
    obtain ⟨rfl, rfl, rfl⟩ := h
    exact sliceLoT g off n c k x (by omega) hc
theorem infoRTh3 : (Try.prog.info? 80).map (fun i => (i.zero, i.size, i.bytes)) = some (some (.agg #[.int .u64 0, .int .u64 0, .string ⟨#[]⟩, .bool false, .string ⟨#[]⟩, .int .i64 0]), 6, 64) := by kernel_rfl
set_option maxHeartbeats 4000000 in
set_option maxRecDepth 100000 in
theorem rmake_any (l : Ths) (tc tk : Int) (th pa : Int) (nm : ByteArray) (dr : Bool) (dg : ByteArray) (sz : Int) (v : Value) (w : World) (hf : Fine l) (hR : RowsAt Th.cs 6 w v l) (hN : Nice v) (hl : l.length ≤ 100000) (hth : 1 < th) :
    Calls Try.prog 30 #[v, .agg #[.int .i64 1, .int .u64 tc, .int .i64 tk, .int .u64 th, .int .u64 pa, .string nm, .bool dr, .string dg, .int .i64 sz]] w fun r w' => ∃ v', r = .returned v' ∧ Rt w v' (made l ⟨1, ⟨tc, tk⟩, th, pa, nm, dr, dg, sz⟩) w' := by
  obtain ⟨la, lc, rfl⟩ := hR.form
  have hmade : made l ⟨1, ⟨tc, tk⟩, th, pa, nm, dr, dg, sz⟩ = if (Mov.look l th).isNone && fold l pa then Mov.put l ⟨th, pa, nm, dr, ⟨#[]⟩, 0⟩ else l := by
    unfold Mov.made Mov.now
    have ht : Mov.top th = false := by unfold Mov.top; simp; omega
    simp only [if_true, ht, Bool.not_false, Bool.and_true]
    split <;> simp_all
  have HF := hide (fun (w' : World) (hb : Below w.heap.size w w') => find_any l th _ w' (hR.below hb) hl)
  have HO := hide (fun (w' : World) (hb : Below w.heap.size w w') => rfold_any l pa _ w' hf.rises (hR.below hb) hl)
  rw [here_look hf.rises] at HF
  obtain ⟨p, hp⟩ : ∃ p, p = spot l th := ⟨_, rfl⟩
  rw [← hp] at HF
  have hpl : p ≤ l.length := hp ▸ spot_le th l
  have HP := hide hp
  have HR := hide hR
  have HN := hide hN
  have I0 : Hid (Below w.heap.size w (w.alloc (.cells #[.int .i64 1, .int .u64 tc, .int .i64 tk, .int .u64 th, .int .u64 pa, .string nm, .bool dr, .string dg, .int .i64 sz] 34)) ∧ (w.alloc (.cells #[.int .i64 1, .int .u64 tc, .int .i64 tk, .int .u64 th, .int .u64 pa, .string nm, .bool dr, .string dg, .int .i64 sz] 34)).heap[w.heap.size]? = some (.cells #[.int .i64 1, .int .u64 tc, .int .i64 tk, .int .u64 th, .int .u64 pa, .string nm, .bool dr, .string dg, .int .i64 sz] 34 (0, 0))) := ⟨(Below.refl _ w).alloc (Nat.le_refl _) _, heap_alloc_new w _⟩
  clear hR hN hp
  go_enter Try.func30, Try.ntmps30
  go_upto_region 1 with fail
  generalize (w.alloc (.cells #[.int .i64 1, .int .u64 tc, .int .i64 tk, .int .u64 th, .int .u64 pa, .string nm, .bool dr, .string dg, .int .i64 sz] 34)) = W0 at *
  obtain ⟨rq, hrq⟩ : ∃ rq, rq = (Mov.look l th).isSome := ⟨_, rfl⟩
  have HRQ := hide hrq
  rw [← hrq] at HF
  clear hrq
  have HMD := hide hmade
  clear hmade
  have c3 := cell_of_row _ _ 3 _ _ _ I0.out.2
  simp at c3
  go_upto_region 3 with (go_at_call 45; refine (HF.out _ I0.out.1).mono ?_; rintro e w1 ⟨rfl, hb⟩; have HI1 := hide (And.intro (I0.out.1.trans (hb.mono I0.out.1.size)) ((hb.block _ (Array.getElem?_eq_some_iff.1 I0.out.2).1).trans I0.out.2)); clear HF hb c3; have c0 := cell_of_row _ _ 0 _ _ _ HI1.out.2; simp at c0)
  have c4 := cell_of_row _ _ 4 _ _ _ HI1.out.2
  simp at c4
  clear c0 I0
  cases rq with
  | true =>
    have HMADE : Hid (Mov.made l ⟨1, ⟨tc, tk⟩, th, pa, nm, dr, dg, sz⟩ = l) := by
      show _ = _
      rw [HMD.out]
      have := HRQ.out
      cases h : Mov.look l th with
      | none => rw [h] at this; cases this
      | some x => rfl
    go_wp2_with fail
    refine bodyPost_ret (results_tmp Try.results30 _ _ _) rfl ?_
    rw [HMADE.out]
    exact ⟨_, rfl, HR.out.below HI1.out.1, HN.out, HI1.out.1⟩
  | false =>
    have hnone : Mov.look l th = none := by
      have := HRQ.out
      cases h : Mov.look l th with
      | none => rfl
      | some x => rw [h] at this; cases this
    have HNONE := hide hnone
    clear hnone
    obtain ⟨fo, hfo⟩ : ∃ fo, fo = fold l pa := ⟨_, rfl⟩
    have HFO := hide hfo
    rw [← hfo] at HO
    clear hfo
    cases fo with
    | false =>
      have HMADE : Hid (Mov.made l ⟨1, ⟨tc, tk⟩, th, pa, nm, dr, dg, sz⟩ = l) := by
        show _ = _
        rw [HMD.out, ← HFO.out]
        simp
      go_wp2_with (go_at_call 46; refine (HO.out _ HI1.out.1).mono ?_; rintro e w2 ⟨rfl, hb⟩; have HI2 := hide (And.intro (HI1.out.1.trans (hb.mono HI1.out.1.size)) ((hb.block _ (Array.getElem?_eq_some_iff.1 HI1.out.2).1).trans HI1.out.2)); clear HO hb c4)
      refine bodyPost_ret (results_tmp Try.results30 _ _ _) rfl ?_
      rw [HMADE.out]
      exact ⟨_, rfl, HR.out.below HI2.out.1, HN.out, HI2.out.1⟩
    | true =>
      obtain ⟨X, hX⟩ : ∃ X : Th, X = ⟨th, pa, nm, dr, ⟨#[]⟩, 0⟩ := ⟨_, rfl⟩
      have HXC : Hid ((Th.cs X).toArray = #[.int .u64 th, .int .u64 pa, .string nm, .bool dr, .string ⟨#[]⟩, .int .i64 0]) := by rw [hX]; rfl
      have HMADE : Hid (Mov.made l ⟨1, ⟨tc, tk⟩, th, pa, nm, dr, dg, sz⟩ = Mov.put l X) := by
        show _ = _
        rw [HMD.out, ← HFO.out, HNONE.out, hX]
        simp
      have HPUT : Hid (Mov.put l X = l.take p ++ X :: l.drop p) := by
        show _ = _
        have e1 : X.id = th := by rw [hX]
        have := put_new (l := l) (x := X) (by rw [e1]; exact HNONE.out)
        rw [e1, ← HP.out] at this
        exact this
      clear hX HMD
      go_upto_region 5 with (go_at_call 46; refine (HO.out _ HI1.out.1).mono ?_; rintro e w2 ⟨rfl, hb⟩; have HI2 := hide (And.intro (HI1.out.1.trans (hb.mono HI1.out.1.size)) ((hb.block _ (Array.getElem?_eq_some_iff.1 HI1.out.2).1).trans HI1.out.2)); clear HO hb c4)
      obtain ⟨lv, hlv⟩ : ∃ lv, lv = Value.slice la l.length lc := ⟨_, rfl⟩
      obtain ⟨hv, hhv⟩ : ∃ hv, hv = Value.slice la p lc := ⟨_, rfl⟩
      obtain ⟨rv, hrv⟩ : ∃ rv, rv = restV la l.length lc p 6 := ⟨_, rfl⟩
      have hHi : Hid (∀ x, (Instr.sliceAt 49 lv none (some (.int .i64 (p : Int))) none).run Try.prog x = .ok hv x) := fun x => by rw [hlv, hhv]; exact sliceHiTA HN.out hpl x
      have hLo : Hid (∀ x, (Instr.sliceAt 49 lv (some (.int .i64 (p : Int))) none none).run Try.prog x = .ok rv x) := fun x => by rw [hlv, hrv]; exact sliceLoTA HN.out hpl x
      have HH1 : Hid (∀ x, Below w2.heap.size w2 x → RegionOwn.Holds x hv 6 p ((l.take p).flatMap Th.cs) ∧ RegionOwn.Holds x rv 6 (l.length - p) ((l.drop p).flatMap Th.cs)) := fun x hx => by
        have hr : RowsAt Th.cs 6 x (.slice la l.length lc) l := HR.out.below (HI2.out.1.trans (hx.mono HI2.out.1.size))
        rw [hhv, hrv]
        exact ⟨hr.hi Th.cs_length (by decide) HN.out hpl, hr.lo Th.cs_length (by decide) HN.out hpl⟩
      have HE1 : Hid (∀ x, Below w2.heap.size w2 x → x.heap[w.heap.size]? = some (.cells #[.int .i64 1, .int .u64 tc, .int .i64 tk, .int .u64 th, .int .u64 pa, .string nm, .bool dr, .string dg, .int .i64 sz] 34 (0, 0))) := fun x hx => (hx.block _ (Array.getElem?_eq_some_iff.1 HI2.out.2).1).trans HI2.out.2
      have HONE : Hid ((∀ es : List Th, ∀ u ∈ es.flatMap Th.cs, u.oneCell' = true) ∧ ∀ u ∈ Th.cs X, u.oneCell' = true) := ⟨ths_cells, th_cells X⟩
      obtain ⟨tinfo, hti, htz, hts, htb⟩ := info_parts infoRTh3
      have HTI := hide (And.intro hti (And.intro htz (And.intro hts htb)))
      clear hti htz hts htb
      rw [← hlv]
      clear hlv hhv hrv
--BEGIN
      refine RegionOwn.regionK 20 117 80 6 (fun i => match i with
        | 0 => RegionOwn.row 0 [] 4
        | 1 => RegionOwn.val lv
        | 2 => RegionOwn.val (.int .i64 (p : Nat))
        | 3 => RegionOwn.val hv
        | 4 => RegionOwn.row p ((l.take p).flatMap Th.cs) 15
        | 5 => RegionOwn.val (.pointer (some ⟨w.heap.size, 3, none⟩))
        | 6 => RegionOwn.val (.int .u64 th)
        | 7 => RegionOwn.val (.pointer (some ⟨w.heap.size, 4, none⟩))
        | 8 => RegionOwn.val (.int .u64 pa)
        | 9 => RegionOwn.val (.pointer (some ⟨w.heap.size, 5, none⟩))
        | 10 => RegionOwn.val (.string nm)
        | 11 => RegionOwn.val (.pointer (some ⟨w.heap.size, 6, none⟩))
        | 12 => RegionOwn.val (.bool dr)
        | 13 => RegionOwn.val (.agg #[.int .u64 th, .int .u64 pa, .string nm, .bool dr, .string ⟨#[]⟩, .int .i64 0])
        | 14 => RegionOwn.row 1 (Th.cs X) 15
        | 15 => RegionOwn.row (p + 1) ((l.take p).flatMap Th.cs ++ Th.cs X) 19
        | 16 => RegionOwn.val lv
        | 17 => RegionOwn.val (.int .i64 (p : Nat))
        | 18 => RegionOwn.val rv
        | 19 => RegionOwn.row (p + 1 + (l.length - p)) ((l.take p).flatMap Th.cs ++ Th.cs X ++ (l.drop p).flatMap Th.cs) 20
        | _ => RegionOwn.val undef) (fun i => match i with | 0 => some 4 | 4 => some 15 | 14 => some 15 | 15 => some 19 | 19 => some 20 | _ => none) ?_ (by kernel_rfl) rfl (by kernel_rfl) ?_ ?_ ?_
      · intro i hi
        match i, hi with
        | 0, _ | 1, _ | 2, _ | 3, _ | 4, _ | 5, _ | 6, _ | 7, _ | 8, _ | 9, _ | 10, _ | 11, _ | 12, _ | 13, _ | 14, _ | 15, _ | 16, _ | 17, _ | 18, _ | 19, _ => rfl
        | i + 20, h => exact absurd h (by omega)
      · intro i p hi h
        match i, hi, h with
        | 0, _, h | 1, _, h | 2, _, h | 3, _, h | 4, _, h | 5, _, h | 6, _, h | 7, _, h | 8, _, h | 9, _, h | 10, _, h | 11, _, h | 12, _, h | 13, _, h | 14, _, h | 15, _, h | 16, _, h | 17, _, h | 18, _, h | 19, _, h => cases h
        | i + 20, h, _ => exact absurd h (by omega)
      · intro i hi y x hfr hbx hD hO K hK
        have el : RegionOwn.T y 0 = lv := hfr.at (by kernel_rfl) rfl
        have ea : RegionOwn.T y 5 = .int .i64 (p : Nat) := hfr.at (by kernel_rfl) rfl
        have ee : RegionOwn.T y 3 = .pointer (some ⟨w.heap.size, 0, none⟩) := hfr.at (by kernel_rfl) rfl
        have hsz := hbx.size
        match i, hi with
        | 0, _ =>
          refine RegionOwn.made (ob := .cells #[] 80) (v := .slice (some ⟨x.heap.size, 0, none⟩) 0 0) rfl rfl hK (World.ownsRow_made x #[] 0 hsz (Nat.zero_le _) rfl) (fun g h => by simp [Value.ownBlock] at h; omega) ?_
          clear hK hD hfr hO
          go_simp
        | 1, _ =>
          refine RegionOwn.quiet rfl rfl hK rfl rfl ?_
          clear hK hD hfr hO
          unfold RegionOwn.T at el
          go_simp
        | 2, _ =>
          refine RegionOwn.quiet rfl rfl hK rfl rfl ?_
          clear hK hD hfr hO
          unfold RegionOwn.T at ea
          go_simp
        | 3, _ =>
          refine RegionOwn.quiet rfl rfl hK rfl rfl ?_
          have q : RegionOwn.T y 28 = lv := hD 1 28 (by decide) rfl (by kernel_rfl) (.inl rfl)
          have q1 : RegionOwn.T y 29 = .int .i64 (p : Nat) := hD 2 29 (by decide) rfl (by kernel_rfl) (.inl rfl)
          have hr := hHi.out x
          clear hK hD hfr hO
          unfold RegionOwn.T at q q1
          go_simp
        | 4, _ =>
          have q : x.ownsRow w2.heap.size 80 6 (RegionOwn.T y 27) 0 [] := hD 0 27 (by decide) rfl (by kernel_rfl) (.inr rfl)
          have q1 : RegionOwn.T y 30 = hv := hD 3 30 (by decide) rfl (by kernel_rfl) (.inl rfl)
          refine RegionOwn.appended (j := 0) (k := p) (ys := (l.take p).flatMap Th.cs) rfl rfl hK rfl tinfo _ 6 64 Try.underlying49 HTI.out.1 HTI.out.2.1 HTI.out.2.2.1 HTI.out.2.2.2 rfl (by decide) (by decide) rfl rfl q hsz (by rw [q1]; exact (HH1.out x hbx).1) (HONE.out.1 _) (by simp only [maxLen]; omega) (by omega) fun v z hz => ?_
          rw [Nat.zero_add] at hz
          exact hz
        | 5, _ =>
          refine RegionOwn.quiet rfl rfl hK rfl rfl ?_
          clear hK hD hfr hO
          unfold RegionOwn.T at ee
          go_simp
        | 6, _ =>
          refine RegionOwn.quiet rfl rfl hK rfl rfl ?_
          have q : RegionOwn.T y 32 = .pointer (some ⟨w.heap.size, 3, none⟩) := hD 5 32 (by decide) rfl (by kernel_rfl) (.inl rfl)
          have c := cell_of_row _ _ 3 _ _ _ (HE1.out x hbx)
          simp at c
          clear hK hD hfr hO
          unfold RegionOwn.T at q
          go_simp
        | 7, _ =>
          refine RegionOwn.quiet rfl rfl hK rfl rfl ?_
          clear hK hD hfr hO
          unfold RegionOwn.T at ee
          go_simp
        | 8, _ =>
          refine RegionOwn.quiet rfl rfl hK rfl rfl ?_
          have q : RegionOwn.T y 34 = .pointer (some ⟨w.heap.size, 4, none⟩) := hD 7 34 (by decide) rfl (by kernel_rfl) (.inl rfl)
          have c := cell_of_row _ _ 4 _ _ _ (HE1.out x hbx)
          simp at c
          clear hK hD hfr hO
          unfold RegionOwn.T at q
          go_simp
        | 9, _ =>
          refine RegionOwn.quiet rfl rfl hK rfl rfl ?_
          clear hK hD hfr hO
          unfold RegionOwn.T at ee
          go_simp
        | 10, _ =>
          refine RegionOwn.quiet rfl rfl hK rfl rfl ?_
          have q : RegionOwn.T y 36 = .pointer (some ⟨w.heap.size, 5, none⟩) := hD 9 36 (by decide) rfl (by kernel_rfl) (.inl rfl)
          have c := cell_of_row _ _ 5 _ _ _ (HE1.out x hbx)
          simp at c
          clear hK hD hfr hO
          unfold RegionOwn.T at q
          go_simp
        | 11, _ =>
          refine RegionOwn.quiet rfl rfl hK rfl rfl ?_
          clear hK hD hfr hO
          unfold RegionOwn.T at ee
          go_simp
        | 12, _ =>
          refine RegionOwn.quiet rfl rfl hK rfl rfl ?_
          have q : RegionOwn.T y 38 = .pointer (some ⟨w.heap.size, 6, none⟩) := hD 11 38 (by decide) rfl (by kernel_rfl) (.inl rfl)
          have c := cell_of_row _ _ 6 _ _ _ (HE1.out x hbx)
          simp at c
          clear hK hD hfr hO
          unfold RegionOwn.T at q
          go_simp
        | 13, _ =>
          refine RegionOwn.quiet rfl rfl hK rfl rfl ?_
          have q0 : RegionOwn.T y 33 = .int .u64 th := hD 6 33 (by decide) rfl (by kernel_rfl) (.inl rfl)
          have q1 : RegionOwn.T y 35 = .int .u64 pa := hD 8 35 (by decide) rfl (by kernel_rfl) (.inl rfl)
          have q2 : RegionOwn.T y 37 = .string nm := hD 10 37 (by decide) rfl (by kernel_rfl) (.inl rfl)
          have q3 : RegionOwn.T y 39 = .bool dr := hD 12 39 (by decide) rfl (by kernel_rfl) (.inl rfl)
          clear hK hD hfr hO
          unfold RegionOwn.T at q0 q1 q2 q3
          rw [Array.getD_eq_getD_getElem?] at q0 q1 q2 q3
          go_simp
        | 14, _ =>
          have q : RegionOwn.T y 40 = .agg #[.int .u64 th, .int .u64 pa, .string nm, .bool dr, .string ⟨#[]⟩, .int .i64 0] := hD 13 40 (by decide) rfl (by kernel_rfl) (.inl rfl)
          refine RegionOwn.made (ob := .cells (Th.cs X).toArray 80) (v := .slice (some ⟨x.heap.size, 0, none⟩) 1 1) rfl rfl hK (RegionOwn.made_one x _ 80 6 (Th.cs X).toArray hsz rfl) (fun g h => by simp [Value.ownBlock] at h; omega) ?_
          rw [HXC.out]
          clear hK hD hfr hO
          unfold RegionOwn.T at q
          have q' := q
          rw [Array.getD_eq_getD_getElem?] at q'
          go_simp
        | 15, _ =>
          have q : x.ownsRow w2.heap.size 80 6 (RegionOwn.T y 31) p ((l.take p).flatMap Th.cs) := hD 4 31 (by decide) rfl (by kernel_rfl) (.inr rfl)
          have q1 : x.ownsRow w2.heap.size 80 6 (RegionOwn.T y 41) 1 (Th.cs X) := hD 14 41 (by decide) rfl (by kernel_rfl) (.inr rfl)
          exact RegionOwn.appended (j := 4) (k := 1) (ys := Th.cs X) rfl rfl hK rfl tinfo _ 6 64 Try.underlying49 HTI.out.1 HTI.out.2.1 HTI.out.2.2.1 HTI.out.2.2.2 rfl (by decide) (by decide) rfl rfl q hsz (.of_own q1) HONE.out.2 (by simp only [maxLen]; omega) (by omega) fun v z hz => hz
        | 16, _ =>
          refine RegionOwn.quiet rfl rfl hK rfl rfl ?_
          clear hK hD hfr hO
          unfold RegionOwn.T at el
          go_simp
        | 17, _ =>
          refine RegionOwn.quiet rfl rfl hK rfl rfl ?_
          clear hK hD hfr hO
          unfold RegionOwn.T at ea
          go_simp
        | 18, _ =>
          refine RegionOwn.quiet rfl rfl hK rfl rfl ?_
          have q : RegionOwn.T y 43 = lv := hD 16 43 (by decide) rfl (by kernel_rfl) (.inl rfl)
          have q1 : RegionOwn.T y 44 = .int .i64 (p : Nat) := hD 17 44 (by decide) rfl (by kernel_rfl) (.inl rfl)
          have hr := hLo.out x
          clear hK hD hfr hO
          unfold RegionOwn.T at q q1
          go_simp
        | 19, _ =>
          have q : x.ownsRow w2.heap.size 80 6 (RegionOwn.T y 42) (p + 1) ((l.take p).flatMap Th.cs ++ Th.cs X) := hD 15 42 (by decide) rfl (by kernel_rfl) (.inr rfl)
          have q1 : RegionOwn.T y 45 = rv := hD 18 45 (by decide) rfl (by kernel_rfl) (.inl rfl)
          exact RegionOwn.appended (j := 15) (k := l.length - p) (ys := (l.drop p).flatMap Th.cs) rfl rfl hK rfl tinfo _ 6 64 Try.underlying49 HTI.out.1 HTI.out.2.1 HTI.out.2.2.1 HTI.out.2.2.2 rfl (by decide) (by decide) rfl rfl q hsz (by rw [q1]; exact (HH1.out x hbx).2) (HONE.out.1 _) (by simp only [maxLen]; omega) (by omega) fun v z hz => hz
        | i + 20, h => exact absurd h (by omega)
      · intro y x hfr hbx hD
        have q : x.ownsRow w2.heap.size 80 6 (RegionOwn.T y 46) (p + 1 + (l.length - p)) ((l.take p).flatMap Th.cs ++ Th.cs X ++ (l.drop p).flatMap Th.cs) := hD 19 46 (by decide) rfl (fun i hi e => by cases e; omega)
        obtain ⟨va, vc, hv'⟩ := RegionOwn.own_form q
        have hl47 : List.range 117 = [0, 1, 2, 3, 4, 5, 6, 7, 8, 9, 10, 11, 12, 13, 14, 15, 16, 17, 18, 19, 20, 21, 22, 23, 24, 25, 26, 27, 28, 29, 30, 31, 32, 33, 34, 35, 36, 37, 38, 39, 40, 41, 42, 43, 44, 45, 46, 47, 48, 49, 50, 51, 52, 53, 54, 55, 56, 57, 58, 59, 60, 61, 62, 63, 64, 65, 66, 67, 68, 69, 70, 71, 72, 73, 74, 75, 76, 77, 78, 79, 80, 81, 82, 83, 84, 85, 86, 87, 88, 89, 90, 91, 92, 93, 94, 95, 96, 97, 98, 99, 100, 101, 102, 103, 104, 105, 106, 107, 108, 109, 110, 111, 112, 113, 114, 115, 116] := by decide
        have hdf : y.defers = [] := hfr.defers
        have hrow : RowsAt Th.cs 6 x (RegionOwn.T y 46) (Mov.put l X) := by
          have e1 : Mov.put l X = l.take p ++ X :: l.drop p := HPUT.out
          have e2 : (Mov.put l X).length = p + 1 + (l.length - p) := by rw [e1, List.length_append, List.length_cons, List.length_take, List.length_drop]; omega
          refine RowsAt.of_own (base := w2.heap.size) (e := 80) Th.cs_length ?_
          rw [e2, e1, List.flatMap_append, List.flatMap_cons, ← List.append_assoc]
          exact q
        have HF := hide (And.intro hrow (And.intro (Nice.of_own q) (HI2.out.1.trans (hbx.mono HI2.out.1.size))))
        rw [hv'] at HF
        rw [RegionOwn.act_lit y 117 (hfr.size.trans rfl), hl47, hdf]
        simp only [List.map_cons, List.map_nil, List.drop_succ_cons, List.drop_zero, hv']
        clear hD hfr q hrow hl47 hdf hv'
        go_wp2
        refine bodyPost_ret (results_tmp Try.results30 _ _ _) rfl ?_
        rw [HMADE.out]
        exact ⟨_, rfl, HF.out.1, HF.out.2.1, HF.out.2.2⟩
--END
end Go.Proofs.Ytknnamanbeckeaa
/- Rows of structs of one's own: many at once, and one cell of one; of no program. -/
namespace Go.Rws
open Go.RowKit
variable {α : Type} {cs : α → List Value} {z : Nat} {T : TypeId} {W w w' : World} {vo : Value} {xs : List α} {P : Program}
theorem flat_set (hz : ∀ x, (cs x).length = z) {x' : α} {j : Nat} {u : Value} : ∀ {xs : List α} {p : Nat} {x : α}, xs[p]? = some x → j < z → cs x' = (cs x).set j u → (xs.set p x').flatMap cs = (xs.flatMap cs).set (p * z + j) u
  | [], p, x, h, _, _ => by simp at h
  | a :: r, 0, x, h, hj, hc => by
    simp only [List.getElem?_cons_zero, Option.some.injEq] at h
    subst h
    rw [List.set_cons_zero, List.flatMap_cons, List.flatMap_cons, hc, Nat.zero_mul, Nat.zero_add, List.set_append, if_pos (by rw [hz]; exact hj)]
  | a :: r, p + 1, x, h, hj, hc => by
    rw [List.set_cons_succ, List.flatMap_cons, List.flatMap_cons, flat_set hz (xs := r) (p := p) (by simpa using h) hj hc, List.set_append, if_neg (by rw [hz, Nat.add_mul]; omega), hz, show (p + 1) * z + j - z = p * z + j by rw [Nat.add_mul]; omega]
/-- One cell is set. -/
theorem OwnR.setAt {g n c p j : Nat} {u : Value} {x x' : α} (hz : ∀ x, (cs x).length = z) (h : OwnR cs z T W (.slice (some ⟨g, 0, none⟩) n c) xs w) (hx : xs[p]? = some x) (hj : j < z) (hc : cs x' = (cs x).set j u) : OwnR cs z T W (.slice (some ⟨g, 0, none⟩) n c) (xs.set p x') (w.setCell ⟨g, p * z + j, none⟩ u) := by
  obtain ⟨⟨h0, h1⟩, hb⟩ := h
  rcases h1 with ⟨h1, _⟩ | ⟨g', cap, cur, h1, h2, h3, h4, h5, h6, h7⟩
  · cases h1
  · simp only [Value.slice.injEq, Option.some.injEq, Addr.mk.injEq, and_true] at h1
    obtain ⟨rfl, rfl, rfl⟩ := h1
    refine ⟨⟨by rw [flat_len hz], .inr ⟨g, c, cur.setIfInBounds (p * z + j) u, by rw [List.length_set], h2, heap_setCell_same _ _ _ _ _ _ h3, by rw [List.length_set]; exact h4, h5, by simpa using h6, ?_⟩⟩, hb.setCell h2 u⟩
    rw [Array.toList_setIfInBounds, List.length_set, List.take_set, h7, flat_set hz hx hj hc]
/-- What lies in one's own row. -/
theorem OwnR.cellAt {g n c p j : Nat} {u : Value} {x : α} (hz : ∀ x, (cs x).length = z) (h : OwnR cs z T W (.slice (some ⟨g, 0, none⟩) n c) xs w) (hx : xs[p]? = some x) (hu : (cs x)[j]? = some u) : w.cell? ⟨g, p * z + j, none⟩ = some u ∧ w.frozen? ⟨g, p * z + j, none⟩ = false ∧ W.heap.size ≤ g ∧ g < w.heap.size := by
  have hl := h.own.lt g rfl
  obtain ⟨⟨h0, h1⟩, hb⟩ := h
  rcases h1 with ⟨h1, _⟩ | ⟨g', cap, cur, h1, h2, h3, h4, h5, h6, h7⟩
  · cases h1
  · simp only [Value.slice.injEq, Option.some.injEq, Addr.mk.injEq, and_true] at h1
    obtain ⟨rfl, rfl, rfl⟩ := h1
    refine ⟨?_, frozen_of_row _ _ _ _ _ h3, hl⟩
    have hc := flat_in hz hx j u hu
    have hlen := (List.getElem?_eq_some_iff.1 hc).1
    rw [h0] at hlen
    rw [← h7, List.getElem?_take_of_lt hlen, Array.getElem?_toList] at hc
    rw [cell_of_row _ _ _ _ _ _ h3]
    exact hc
/-- A whole row is added. -/
theorem OwnR.appendAll {a0 : Option Addr} {n0 c0 : Nat} (h : OwnR cs z T W (.slice a0 n0 c0) xs w) (ys : List α) (hz : ∀ x, (cs x).length = z) (h1 : ∀ u ∈ ys.flatMap cs, u.oneCell' = true) (hz0 : 0 < z) {zero : Value} {by_ : Nat} (hi : (P.info? T).map (fun i => (i.zero, i.size, i.bytes)) = some (some zero, z, by_)) (hzs : zero.cells.size = z) (hlen : xs.length + ys.length ≤ 100000) (hby : by_ ≤ 10000)
    {ops : Array Oper} {rest : List Oper} {o : Oper} {a : Act} {Q : Exit → Act → World → Prop} (hg : o.guard = none) (s y : Operand) (t : TypeId) (ht : P.underlying t = some (.slice T))
    (ho : o.op = .call { callee := .builtin .append, args := #[s, y], argTypes := #[t, t] }) (hs : a.eval s = .slice a0 n0 c0) {g off c : Nat} (hy : a.eval y = .slice (some ⟨g, off, none⟩) ys.length c) (hR : RowsAt cs z w (.slice (some ⟨g, off, none⟩) ys.length c) ys)
    (k : ∀ a1 c1 w1, OwnR cs z T W (.slice a1 (xs ++ ys).length c1) (xs ++ ys) w1 → wpList P ops Q rest (a.put o.dst (.slice a1 (xs ++ ys).length c1)) w1) : wpList P ops Q (o :: rest) a w := by
  obtain ⟨i, hi0, hi1, hi2, hi3⟩ := info_of hi
  have hsz := h.below.size
  have hmul : (xs.length + ys.length) * by_ ≤ 100000 * 10000 := Nat.mul_le_mul (by omega) hby
  have hn0 : n0 = xs.length := by
    obtain ⟨a', c', e⟩ := h.form
    simp only [Value.slice.injEq] at e
    exact e.2.1
  subst hn0
  refine wpList_append_own _ hg s y t ho W.heap.size T i zero z by_ ht hi0 hi1 hi2 hi3 hzs hz0 _ _ _ hs h.own ⟨g, off, none⟩ ys.length c (ys.flatMap cs) hy (flat_len hz ys) (fun j u hu => by rw [Addr.add_mid]; exact hR.cell hz hz0 j u hu) h1 (by unfold maxLen; omega) (by omega) hsz ?_
  intro v' w1 hown hgrow _
  have e1 : xs.length + ys.length = (xs ++ ys).length := List.length_append.symm
  have hf : ∃ a c, v' = .slice a (xs ++ ys).length c := by
    rcases hown.2 with ⟨e, h0⟩ | ⟨j, cap, cur, rfl, _⟩
    · exact ⟨none, 0, by rw [e, ← e1, h0]⟩
    · exact ⟨_, _, by rw [e1]⟩
  obtain ⟨a1, c1, rfl⟩ := hf
  refine k a1 c1 w1 ⟨?_, h.below.grown hgrow hsz fun j e => (h.own.lt j e).1⟩
  rw [List.flatMap_append, ← e1]
  rw [← e1] at hown
  exact hown
end Go.Rws
/- Contract: what an operation makes of the things, by the document. -/
namespace Go.Mov
open Go.RowKit Go.Rws
theorem set_back {l : Ths} {p : Nat} {x : Th} (h : l[p]? = some x) : l.set p x = l := by
  apply List.ext_getElem?
  intro i
  by_cases e : p = i
  · subst e
    rw [List.getElem?_set_self (List.getElem?_eq_some_iff.1 h).1, h]
  · rw [List.getElem?_set_ne e]
end Go.Mov
namespace Go.Proofs.Ytknnamanbeckeaa
open Go.RowKit Go.Opn Go.Stamp Go.MapInt Go.Mov Go.Shelf Go.Rws
attribute [local go_sem] Oper.semAt_some
theorem undRTs : Try.prog.underlying 49 = some (.slice 80) := by kernel_rfl
set_option maxHeartbeats 8000000 in
set_option maxRecDepth 100000 in
theorem rchange_any (l : Ths) (kd tc tk : Int) (th pa : Int) (nm : ByteArray) (dr : Bool) (dg : ByteArray) (sz : Int) (v : Value) (w : World) (hk : kd = 2 ∨ kd = 3 ∨ kd = 4) (hf : Fine l) (hR : RowsAt Th.cs 6 w v l) (hN : Nice v) (hl : l.length ≤ 100000) (hth : 1 < th) :
    Calls Try.prog 30 #[v, .agg #[.int .i64 kd, .int .u64 tc, .int .i64 tk, .int .u64 th, .int .u64 pa, .string nm, .bool dr, .string dg, .int .i64 sz]] w fun r w' => ∃ v', r = .returned v' ∧ Rt w v' (made l ⟨kd, ⟨tc, tk⟩, th, pa, nm, dr, dg, sz⟩) w' := by
  obtain ⟨la, lc, rfl⟩ := hR.form
  have HF := hide (fun (w' : World) (hb : Below w.heap.size w w') => find_any l th _ w' (hR.below hb) hl)
  have HO := hide (fun (w' : World) (hb : Below w.heap.size w w') => rfold_any l pa _ w' hf.rises (hR.below hb) hl)
  have HBL := hide (fun (w' : World) (hb : Below w.heap.size w w') => rbelow_any l pa th _ w' hf hth (hR.below hb) hl)
  rw [here_look hf.rises] at HF
  obtain ⟨p, hp⟩ : ∃ p, p = spot l th := ⟨_, rfl⟩
  rw [← hp] at HF
  have hpl : p ≤ l.length := hp ▸ spot_le th l
  have HP := hide hp
  have HR := hide hR
  have HN := hide hN
  have HFI := hide hf
  have HK := hide hk
  have hk1 : decide (kd = 1) = false := decide_eq_false (by omega)
  have hk1b : (kd == 1) = false := by simpa using hk1
  have I0 : Hid (Below w.heap.size w (w.alloc (.cells #[.int .i64 kd, .int .u64 tc, .int .i64 tk, .int .u64 th, .int .u64 pa, .string nm, .bool dr, .string dg, .int .i64 sz] 34)) ∧ (w.alloc (.cells #[.int .i64 kd, .int .u64 tc, .int .i64 tk, .int .u64 th, .int .u64 pa, .string nm, .bool dr, .string dg, .int .i64 sz] 34)).heap[w.heap.size]? = some (.cells #[.int .i64 kd, .int .u64 tc, .int .i64 tk, .int .u64 th, .int .u64 pa, .string nm, .bool dr, .string dg, .int .i64 sz] 34 (0, 0))) := ⟨(Below.refl _ w).alloc (Nat.le_refl _) _, heap_alloc_new w _⟩
  clear hR hN hp hk hf
  go_enter Try.func30, Try.ntmps30
  go_upto_region 1 with fail
  generalize (w.alloc (.cells #[.int .i64 kd, .int .u64 tc, .int .i64 tk, .int .u64 th, .int .u64 pa, .string nm, .bool dr, .string dg, .int .i64 sz] 34)) = W0 at *
  obtain ⟨rq, hrq⟩ : ∃ rq, rq = (Mov.look l th).isSome := ⟨_, rfl⟩
  have HRQ := hide hrq
  rw [← hrq] at HF
  clear hrq
  have c3 := cell_of_row _ _ 3 _ _ _ I0.out.2
  simp at c3
  go_upto_region 6 with (go_at_call 45; refine (HF.out _ I0.out.1).mono ?_; rintro e w1 ⟨rfl, hb⟩; have HI1 := hide (And.intro (I0.out.1.trans (hb.mono I0.out.1.size)) ((hb.block _ (Array.getElem?_eq_some_iff.1 I0.out.2).1).trans I0.out.2)); clear HF hb c3; have c0 := cell_of_row _ _ 0 _ _ _ HI1.out.2; simp at c0)
  clear c0 I0
  cases rq with
  | false =>
    have HMADE : Hid (Mov.made l ⟨kd, ⟨tc, tk⟩, th, pa, nm, dr, dg, sz⟩ = l) := by
      show _ = _
      have hn : Mov.look l th = none := by
        have := HRQ.out
        cases h : Mov.look l th with
        | none => rfl
        | some x => rw [h] at this; cases this
      unfold Mov.made Mov.now
      dsimp only
      rw [hn, if_neg (of_decide_eq_false hk1)]
      rcases HK.out with rfl | rfl | rfl <;> rfl
    go_wp2_with fail
    refine bodyPost_ret (results_tmp Try.results30 _ _ _) rfl ?_
    rw [HMADE.out]
    exact ⟨_, rfl, HR.out.below HI1.out.1, HN.out, HI1.out.1⟩
  | true =>
    obtain ⟨x, hx⟩ : ∃ x, Mov.look l th = some x := by
      have := HRQ.out
      cases h : Mov.look l th with
      | none => rw [h] at this; cases this
      | some x => exact ⟨x, rfl⟩
    have hxp : l[p]? = some x := HP.out ▸ look_here HFI.out.rises hx
    have HX := hide (And.intro hx (And.intro hxp (look_mem hx).2))
    obtain ⟨g, off, hla, _, _, hgl, hrg⟩ := HR.out.at (fun e => by rw [e] at hxp; cases hxp)
    subst hla
    have HRG := hide (And.intro hgl hrg)
    have hpL := (List.getElem?_eq_some_iff.1 hxp).1
    have hpI : (p : Int) < l.length := by omega
    have h0p : (0 : Int) ≤ p := by omega
    clear hx hxp hgl hrg
    have HM0 := hide (OwnR.made (cs := Th.cs) (z := 6) (T := 80) (Below.refl w1.heap.size w1))
    have HRA := hide ((HR.out.below HI1.out.1).below ((Below.refl w1.heap.size w1).alloc (Nat.le_refl _) (.cells #[] 80)))
    go_upto_region 9 with (at_builtin; refine OwnR.appendAll HM0.out l Th.cs_length (ths_cells l) (by decide) infoRTh3 rfl (by simp; omega) (by decide) rfl _ _ 49 undRTs rfl rfl rfl HRA.out ?_; intro a1 c1 w3 hO; have HO3 := hide hO; clear hO HM0 HRA)
    rw [List.nil_append] at HO3
    obtain ⟨g2, rfl⟩ : ∃ g2, a1 = some ⟨g2, 0, none⟩ := by
      rcases HO3.out.own.2 with ⟨_, h0⟩ | ⟨j, cap, cur, h1, _⟩
      · omega
      · simp only [Value.slice.injEq] at h1
        exact ⟨j, h1.1⟩
    have HI3 := hide (And.intro (HI1.out.1.trans (HO3.out.below.mono HI1.out.1.size)) ((HO3.out.below.block _ (Array.getElem?_eq_some_iff.1 HI1.out.2).1).trans HI1.out.2))
    have HB1 := hide HI1.out.1
    have HW1 := (Array.getElem?_eq_some_iff.1 HI1.out.2).1
    clear HI1
    have HLAST : Hid (∀ (y : Th) (w4 : World), OwnR Th.cs 6 80 w1 (.slice (some ⟨g2, 0, none⟩) l.length c1) (l.set p y) w4 → Mov.made l ⟨kd, ⟨tc, tk⟩, th, pa, nm, dr, dg, sz⟩ = l.set p y → Rt w (.slice (some ⟨g2, 0, none⟩) l.length c1) (Mov.made l ⟨kd, ⟨tc, tk⟩, th, pa, nm, dr, dg, sz⟩) w4) := fun y w4 h e => by
      rw [e]
      exact ⟨h.rows Th.cs_length, h.nice, HB1.out.trans (h.below.mono HB1.out.size)⟩
    have HPO : Hid (∀ y : Th, y.id = th → Mov.put l y = l.set p y) := fun y hy => by
      have := put_old HFI.out.rises (x := y) (by rw [hy]; exact HX.out.1)
      rw [hy, ← HP.out] at this
      exact this
    have HSB : Hid (l.set p x = l) := set_back HX.out.2.1
    have k3 := cell_of_row _ _ 3 _ _ _ HI3.out.2
    have k4 := cell_of_row _ _ 4 _ _ _ HI3.out.2
    have k0 := cell_of_row _ _ 0 _ _ _ HI3.out.2
    simp at k0 k3 k4
    clear HN hk1 hk1b
    rcases HK.out with rfl | rfl | rfl
    · obtain ⟨fo, hfo⟩ : ∃ fo, fo = fold l pa := ⟨_, rfl⟩
      obtain ⟨be, hbe⟩ : ∃ be, be = below l.length l pa th := ⟨_, rfl⟩
      have HFB := hide (And.intro hfo hbe)
      rw [← hfo] at HO
      rw [← hbe] at HBL
      clear hfo hbe
      have HMADE : Hid (Mov.made l ⟨2, ⟨tc, tk⟩, th, pa, nm, dr, dg, sz⟩ = if fo && !be then l.set p ⟨x.id, pa, nm, x.dir, x.dg, x.size⟩ else l) := by
        show _ = _
        unfold Mov.made Mov.now
        dsimp only
        rw [if_neg (by decide), if_pos rfl, HX.out.1]
        dsimp only
        rw [← HFB.out.1, ← HFB.out.2]
        by_cases e : (fo && !be) = true
        · rw [if_pos e, if_pos e]
          exact HPO.out _ HX.out.2.2
        · rw [if_neg e, if_neg e]
      cases fo with
      | false =>
        go_wp2_with (go_at_call 46; refine (HO.out _ HI3.out.1).mono ?_; rintro e w4 ⟨rfl, hb⟩; have HO4 := hide (HO3.out.step hb); have HI4 := hide (And.intro (HI3.out.1.trans (hb.mono HI3.out.1.size)) ((hb.block _ (Array.getElem?_eq_some_iff.1 HI3.out.2).1).trans HI3.out.2)); clear HO HO3 HI3 hb k0 k3 k4; have k0 := cell_of_row _ _ 0 _ _ _ HI4.out.2; simp at k0)
        have H4 := hide (HLAST.out x _ (by rw [HSB.out]; exact HO4.out) (by rw [HMADE.out, HSB.out]; rfl))
        refine bodyPost_ret (results_tmp Try.results30 _ _ _) rfl ?_
        exact ⟨_, rfl, H4.out⟩
      | true =>
        cases be with
        | true =>
          go_wp2_with (first
            | (go_at_call 46; refine (HO.out _ HI3.out.1).mono ?_; rintro e w4 ⟨rfl, hb⟩; have HO4 := hide (HO3.out.step hb); have HI4 := hide (And.intro (HI3.out.1.trans (hb.mono HI3.out.1.size)) ((hb.block _ (Array.getElem?_eq_some_iff.1 HI3.out.2).1).trans HI3.out.2)); clear HO HO3 HI3 hb k0 k3 k4; have k3 := cell_of_row _ _ 3 _ _ _ HI4.out.2; have k4 := cell_of_row _ _ 4 _ _ _ HI4.out.2; simp at k3 k4)
            | (go_at_call 47; refine (HBL.out _ HI4.out.1).mono ?_; rintro e w5 ⟨rfl, hb⟩; have HO5 := hide (HO4.out.step hb); have HI5 := hide (And.intro (HI4.out.1.trans (hb.mono HI4.out.1.size)) ((hb.block _ (Array.getElem?_eq_some_iff.1 HI4.out.2).1).trans HI4.out.2)); clear HBL HO4 HI4 hb k3 k4; have k0 := cell_of_row _ _ 0 _ _ _ HI5.out.2; simp at k0))
          have H4 := hide (HLAST.out x _ (by rw [HSB.out]; exact HO5.out) (by rw [HMADE.out, HSB.out]; rfl))
          refine bodyPost_ret (results_tmp Try.results30 _ _ _) rfl ?_
          exact ⟨_, rfl, H4.out⟩
        | false =>
          go_upto_region 10 with (first
            | (go_at_call 46; refine (HO.out _ HI3.out.1).mono ?_; rintro e w4 ⟨rfl, hb⟩; have HO4 := hide (HO3.out.step hb); have HI4 := hide (And.intro (HI3.out.1.trans (hb.mono HI3.out.1.size)) ((hb.block _ (Array.getElem?_eq_some_iff.1 HI3.out.2).1).trans HI3.out.2)); clear HO HO3 HI3 hb k0 k3 k4; have k3 := cell_of_row _ _ 3 _ _ _ HI4.out.2; have k4 := cell_of_row _ _ 4 _ _ _ HI4.out.2; simp at k3 k4)
            | (go_at_call 47; refine (HBL.out _ HI4.out.1).mono ?_; rintro e w5 ⟨rfl, hb⟩; have HO5 := hide (HO4.out.step hb); have HI5 := hide (And.intro (HI4.out.1.trans (hb.mono HI4.out.1.size)) ((hb.block _ (Array.getElem?_eq_some_iff.1 HI4.out.2).1).trans HI4.out.2)); clear HBL HO4 HI4 hb k3 k4))
          have k4 := cell_of_row _ _ 4 _ _ _ HI5.out.2
          have k5 := cell_of_row _ _ 5 _ _ _ HI5.out.2
          simp at k4 k5
          obtain ⟨d1, f1, hg1, hg2⟩ := HO5.out.cellAt (j := 1) Th.cs_length HX.out.2.1 rfl
          obtain ⟨d2, f2, _, _⟩ := HO5.out.cellAt (j := 2) Th.cs_length HX.out.2.1 rfl
          have hne : ¬ g2 = w.heap.size := by omega
          have hne2 : ¬ w.heap.size = g2 := by omega
          go_region
          have H6 := (OwnR.setAt (x := ⟨x.id, pa, x.name, x.dir, x.dg, x.size⟩) (j := 2) (u := .string nm) (x' := ⟨x.id, pa, nm, x.dir, x.dg, x.size⟩) Th.cs_length (OwnR.setAt (j := 1) (u := .int .u64 pa) (x' := ⟨x.id, pa, x.name, x.dir, x.dg, x.size⟩) Th.cs_length HO5.out HX.out.2.1 (by decide) rfl) (by rw [List.getElem?_set_self hpL]) (by decide) rfl)
          rw [List.set_set] at H6
          have H4 := hide (HLAST.out _ _ (H6.step (w' := World.drew ((w5.setCell ⟨g2, p * 6 + 1, none⟩ (.int .u64 pa)).setCell ⟨g2, p * 6 + 2, none⟩ (.string nm))) ⟨rfl, rfl, rfl, Nat.le_refl _, fun _ _ => rfl⟩) (by rw [HMADE.out]; rfl))
          clear H6
          go_wp2_with fail
          refine bodyPost_ret (results_tmp Try.results30 _ _ _) rfl ?_
          exact ⟨_, rfl, H4.out⟩
    · have HMADE : Hid (Mov.made l ⟨3, ⟨tc, tk⟩, th, pa, nm, dr, dg, sz⟩ = l.set p ⟨x.id, 1, x.name, x.dir, x.dg, x.size⟩) := by
        show _ = _
        unfold Mov.made Mov.now
        dsimp only
        rw [if_neg (by decide), if_neg (by decide), if_pos rfl, HX.out.1]
        exact HPO.out _ HX.out.2.2
      obtain ⟨d1, f1, hg1, hg2⟩ := HO3.out.cellAt (j := 1) Th.cs_length HX.out.2.1 rfl
      go_wp2_with fail
      have H4 := hide (HLAST.out _ _ (OwnR.setAt (j := 1) (u := .int .u64 1) (x' := ⟨x.id, 1, x.name, x.dir, x.dg, x.size⟩) Th.cs_length HO3.out HX.out.2.1 (by decide) rfl) HMADE.out)
      refine bodyPost_ret (results_tmp Try.results30 _ _ _) rfl ?_
      exact ⟨_, rfl, H4.out⟩
    · have kd3 := (rangeAt_below (HRG.out.2 p x HX.out.2.1) HRG.out.1 HI3.out.1) 3 _ rfl
      cases hdr : x.dir with
      | true =>
        have HMADE : Hid (Mov.made l ⟨4, ⟨tc, tk⟩, th, pa, nm, dr, dg, sz⟩ = l) := by
          show _ = _
          unfold Mov.made Mov.now
          dsimp only
          rw [if_neg (by decide), if_neg (by decide), if_neg (by decide), if_pos rfl, HX.out.1]
          dsimp only
          rw [hdr]
          rfl
        rw [hdr] at kd3
        go_wp2_with fail
        have H4 := hide (HLAST.out x _ (by rw [HSB.out]; exact HO3.out) (by rw [HMADE.out, HSB.out]))
        refine bodyPost_ret (results_tmp Try.results30 _ _ _) rfl ?_
        exact ⟨_, rfl, H4.out⟩
      | false =>
        have HMADE : Hid (Mov.made l ⟨4, ⟨tc, tk⟩, th, pa, nm, dr, dg, sz⟩ = l.set p ⟨x.id, x.par, x.name, x.dir, dg, sz⟩) := by
          show _ = _
          unfold Mov.made Mov.now
          dsimp only
          rw [if_neg (by decide), if_neg (by decide), if_neg (by decide), if_pos rfl, HX.out.1]
          dsimp only
          rw [hdr]
          have := HPO.out ⟨x.id, x.par, x.name, x.dir, dg, sz⟩ HX.out.2.2
          rw [hdr] at this
          exact this
        rw [hdr] at kd3
        go_upto_region 14 with fail
        have k7 := cell_of_row _ _ 7 _ _ _ HI3.out.2
        have k8 := cell_of_row _ _ 8 _ _ _ HI3.out.2
        simp at k7 k8
        obtain ⟨d4, f4, hg1, hg2⟩ := HO3.out.cellAt (j := 4) Th.cs_length HX.out.2.1 rfl
        obtain ⟨d5, f5, _, _⟩ := HO3.out.cellAt (j := 5) Th.cs_length HX.out.2.1 rfl
        have hne : ¬ g2 = w.heap.size := by omega
        have hne2 : ¬ w.heap.size = g2 := by omega
        go_region
        have H6 := (OwnR.setAt (x := ⟨x.id, x.par, x.name, x.dir, dg, x.size⟩) (j := 5) (u := .int .i64 sz) (x' := ⟨x.id, x.par, x.name, x.dir, dg, sz⟩) Th.cs_length (OwnR.setAt (j := 4) (u := .string dg) (x' := ⟨x.id, x.par, x.name, x.dir, dg, x.size⟩) Th.cs_length HO3.out HX.out.2.1 (by decide) rfl) (by rw [List.getElem?_set_self hpL]) (by decide) rfl)
        rw [List.set_set] at H6
        have H4 := hide (HLAST.out _ _ (H6.step (w' := World.drew ((w3.setCell ⟨g2, p * 6 + 4, none⟩ (.string dg)).setCell ⟨g2, p * 6 + 5, none⟩ (.int .i64 sz))) ⟨rfl, rfl, rfl, Nat.le_refl _, fun _ _ => rfl⟩) HMADE.out)
        clear H6
        go_wp2_with fail
        refine bodyPost_ret (results_tmp Try.results30 _ _ _) rfl ?_
        exact ⟨_, rfl, H4.out⟩
end Go.Proofs.Ytknnamanbeckeaa
/- Contracts: the document's Do of any operation that may be; its Things. -/
namespace Go.Mov
open Go.RowKit Go.Rws Go.Opn
/-- An operation that may be. -/
def Okay (o : Ob) : Prop := 1 < o.thing ∧ (o.kind = 1 ∨ o.kind = 2 ∨ o.kind = 3 ∨ o.kind = 4)
theorem okay_of {o : Ob} (h : o.chk = 0) : Okay o := by
  have h2 := (Ob.chk_zero h).2
  unfold Ob.Good Ob.good at h2
  simp only [Bool.and_eq_true] at h2
  obtain ⟨⟨h1, h2⟩, _⟩ := h2
  unfold Opn.made at h1
  simp at h1
  refine ⟨by omega, ?_⟩
  unfold Ob.fits at h2
  by_cases e1 : o.kind = 1
  · exact .inl e1
  · rw [if_neg e1] at h2
    by_cases e2 : o.kind = 2
    · exact .inr (.inl e2)
    · rw [if_neg e2] at h2
      by_cases e3 : o.kind = 3
      · exact .inr (.inr (.inl e3))
      · rw [if_neg e3] at h2
        by_cases e4 : o.kind = 4
        · exact .inr (.inr (.inr e4))
        · rw [if_neg e4] at h2; cases h2
end Go.Mov
namespace Go.Proofs.Ytknnamanbeckeaa
open Go.RowKit Go.Opn Go.Stamp Go.MapInt Go.Mov Go.Shelf Go.Rws
attribute [local go_sem] Oper.semAt_some
theorem rdo_any (l : Ths) (o : Ob) (v : Value) (w : World) (ho : Okay o) (hf : Fine l) (hR : RowsAt Th.cs 6 w v l) (hN : Nice v) (hl : l.length ≤ 100000) :
    Calls Try.prog 30 #[v, .agg (ocs o).toArray] w fun r w' => ∃ v', r = .returned v' ∧ Rt w v' (Mov.made l o) w' := by
  obtain ⟨kd, ⟨tc, tk⟩, th, pa, nm, dr, dg, sz⟩ := o
  obtain ⟨h1, h2⟩ := ho
  dsimp only at h1 h2
  rcases h2 with rfl | h2
  · exact rmake_any l tc tk th pa nm dr dg sz v w hf hR hN hl h1
  · exact rchange_any l kd tc tk th pa nm dr dg sz v w h2 hf hR hN hl h1
theorem infoROp9 : (Try.prog.info? 34).map (·.size) = some 9 := by kernel_rfl
set_option maxHeartbeats 4000000 in
set_option maxRecDepth 100000 in
theorem rthings_any (es : List En) (v : Value) (w : World) (hR : RowsAt En.cs 10 w v es) (hf : ∀ e ∈ es, e.Fits ∧ Okay e.op) (hl : es.length ≤ 100000) :
    Calls Try.prog 14 #[v] w fun r w' => ∃ v', r = .returned v' ∧ Rt w v' (ths [] es) w' := by
  obtain ⟨la, lc, rfl⟩ := hR.form
  have HR := hide hR
  have HF := hide hf
  have HM := hide (OwnR.made (cs := Th.cs) (z := 6) (T := 80) (Below.refl w.heap.size w))
  clear hR hf
  go_enter Try.func14, Try.ntmps14
  go_wp2_with fail
  go_loopw [3, 4] (fun v3 v4 wr => ∃ i : Nat, v4 = .int .i64 i ∧ i ≤ es.length ∧ Hid (Rt w v3 (ths [] (es.take i)) wr)) (fun v3 v4 _ => es.length - (intOf v4).toNat)
  case atStart => exact ⟨0, rfl, Nat.zero_le _, HM.out.rows Th.cs_length, HM.out.nice, HM.out.below⟩
  case round =>
    obtain ⟨i, rfl, hi, HI⟩ := hrel
    clear HM
    have h0 : (0 : Int) ≤ i := by omega
    by_cases hil : i < es.length
    · obtain ⟨x, hx⟩ : ∃ x, es[i]? = some x := ⟨_, List.getElem?_eq_getElem hil⟩
      obtain ⟨g, off, hla, _, _, hgl, hrg⟩ := HR.out.at (fun e => by rw [e] at hx; cases hx)
      subst hla
      have hiI : (i : Int) < es.length := by omega
      have hrow : wr.rangeAt g (off + i * 10) (ocs x.op) := fun j u hu => by
        have := (rangeAt_below (hrg i x hx) hgl HI.out.k) j u (by
          unfold ocs at hu
          unfold En.cs
          rw [show ([.int .i64 x.op.kind, .int .u64 x.op.tm.c, .int .i64 x.op.tm.k, .int .u64 x.op.thing, .int .u64 x.op.par, .string x.op.name, .bool x.op.dir, .string x.op.dg, .int .i64 x.op.size, .string x.h] : List Value) = [.int .i64 x.op.kind, .int .u64 x.op.tm.c, .int .i64 x.op.tm.k, .int .u64 x.op.thing, .int .u64 x.op.par, .string x.op.name, .bool x.op.dir, .string x.op.dg, .int .i64 x.op.size] ++ [.string x.h] from rfl]
          rw [List.getElem?_append_left (List.getElem?_eq_some_iff.1 hu).1]
          exact hu)
        exact this
      have HRW := hide hrow
      have hfin : Fine (ths [] (es.take i)) := ths_fine Fine.nil fun e he => (HF.out e (List.mem_of_mem_take he)).1
      have hlen : (ths [] (es.take i)).length ≤ 100000 := by
        have := ths_length (l := es.take i) Fine.nil (fun e he => (HF.out e (List.mem_of_mem_take he)).1)
        have h2 : (es.take i).length ≤ es.length := by rw [List.length_take]; omega
        simp at this
        omega
      have HD := hide (rdo_any _ x.op _ wr (HF.out x (List.mem_of_getElem? hx)).2 hfin HI.out.row HI.out.nice hlen)
      have HN : Hid (ths [] (es.take (i + 1)) = Mov.made (ths [] (es.take i)) x.op) := by
        show _ = _
        rw [List.take_add_one, hx]
        unfold ths
        rw [Option.toList_some, List.foldl_append]
        rfl
      clear hx hrg hrow hfin hlen hgl
      go_wp2_with (first
        | (refine wpList_load_mid rfl 34 _ rfl g (off + i * 10) rfl (ocs x.op) _ HRW.out Try.underlying34 rfl infoROp9 ?_)
        | (go_at_call 30; refine HD.out.mono ?_; rintro e w1 ⟨v1, rfl, hr⟩; have HV := hide hr; clear HD hr))
      go_roundw
      case rel => exact ⟨i + 1, by simp, by omega, by rw [HN.out]; exact ⟨HV.out.row, HV.out.nice, HI.out.k.trans (HV.out.k.mono HI.out.k.size)⟩⟩
      case measure => simp [intOf]; omega
    · obtain rfl : i = es.length := by omega
      go_wp2_with fail
      refine bodyPost_ret (results_tmp Try.results14 _ _ _) rfl ?_
      rw [List.take_length] at HI
      exact ⟨_, rfl, HI.out⟩
end Go.Proofs.Ytknnamanbeckeaa
/- Contract: the things below one, by the document. -/
namespace Go.Mov
open Go.RowKit Go.Rws Go.Opn
theorem kids_take {l : Ths} {k : Int} {i : Nat} {x : Th} (h : l[i]? = some x) : kidsOf (l.take (i + 1)) k = if x.par = k then kidsOf (l.take i) k ++ [x] else kidsOf (l.take i) k := by
  unfold kidsOf
  rw [List.take_add_one, h, Option.toList_some, List.filter_append]
  by_cases e : x.par = k
  · rw [if_pos e, List.filter_cons_of_pos (by simpa using e)]; rfl
  · rw [if_neg e, List.filter_cons_of_neg (by simpa using e)]; simp
theorem kids_len (l : Ths) (k : Int) : (kidsOf l k).length ≤ l.length := List.length_filter_le _ _
end Go.Mov
namespace Go.Proofs.Ytknnamanbeckeaa
open Go.RowKit Go.Opn Go.Stamp Go.MapInt Go.Mov Go.Shelf Go.Rws
attribute [local go_sem] Oper.semAt_some
set_option maxHeartbeats 4000000 in
set_option maxRecDepth 100000 in
theorem rkids_any (l : Ths) (k : Int) (v : Value) (w : World) (hR : RowsAt Th.cs 6 w v l) (hl : l.length ≤ 90000) :
    Calls Try.prog 28 #[v, .int .u64 k] w fun r w' => ∃ v', r = .returned v' ∧ Rt w v' (kidsOf l k) w' := by
  obtain ⟨la, lc, rfl⟩ := hR.form
  have HR := hide hR
  have HM := hide (OwnR.made (cs := Th.cs) (z := 6) (T := 80) (Below.refl w.heap.size w))
  clear hR
  go_enter Try.func28, Try.ntmps28
  go_wp2_with fail
  go_loopw [5, 6] (fun v5 v6 wr => ∃ (i n : Nat) (a : Option Addr) (c : Nat), v6 = .int .i64 i ∧ i ≤ l.length ∧ v5 = .slice a n c ∧ n = (kidsOf (l.take i) k).length ∧ Hid (OwnR Th.cs 6 80 w (.slice a n c) (kidsOf (l.take i) k) wr)) (fun v5 v6 _ => l.length - (intOf v6).toNat)
  case atStart => exact ⟨0, 0, _, _, rfl, Nat.zero_le _, rfl, rfl, HM.out⟩
  case round =>
    obtain ⟨i, n, a, c, rfl, hi, rfl, hn, HI⟩ := hrel
    clear HM
    have h0 : (0 : Int) ≤ i := by omega
    by_cases hil : i < l.length
    · obtain ⟨x, hx⟩ : ∃ x, l[i]? = some x := ⟨_, List.getElem?_eq_getElem hil⟩
      obtain ⟨g, off, hla, _, _, hgl, hrg⟩ := HR.out.at (fun e => by rw [e] at hx; cases hx)
      subst hla
      have hiI : (i : Int) < l.length := by omega
      have hrow := rangeAt_below (hrg i x hx) hgl HI.out.below
      have c1 := hrow 1 _ rfl
      have HRW := hide hrow
      have HK := hide (kids_take (k := k) hx)
      have hkl : (kidsOf (l.take i) k).length ≤ l.length := Nat.le_trans (kids_len _ _) (by rw [List.length_take]; omega)
      have HKL := hide hkl
      have HN := hide hn
      clear hx hrg hrow hgl hkl hn
      by_cases hp : x.par = k
      · have hd : decide (x.par = k) = true := decide_eq_true hp
        have hdb : (x.par == k) = true := by simpa using hp
        rw [if_pos hp] at HK
        clear hp
        go_wp2_with (first
          | (refine wpList_load_mid rfl 80 _ rfl g (off + i * 6) rfl x.cs _ HRW.out Try.underlying80 rfl infoRTh ?_; simp only [Th.cs])
          | (at_builtin; refine OwnR.append HI.out x Th.cs_length (th_cells x) (by decide) infoRTh3 rfl (by have := HKL.out; omega) (by decide) rfl _ _ 49 undRTs rfl rfl rfl ?_; intro a1 c1 w3 hO; have HO3 := hide hO; clear hO))
        go_roundw
        case rel => exact ⟨i + 1, _, _, _, by simp, by omega, rfl, by rw [HK.out, List.length_append]; rfl, by rw [HK.out]; exact HO3.out⟩
        case measure => simp [intOf]; omega
      · have hd : decide (x.par = k) = false := decide_eq_false hp
        rw [if_neg hp] at HK
        go_wp2_with fail
        go_roundw
        case rel => exact ⟨i + 1, n, a, c, by simp, by omega, rfl, by rw [HK.out]; exact HN.out, by rw [HK.out]; exact HI.out⟩
        case measure => simp [intOf]; omega
    · obtain rfl : i = l.length := by omega
      go_wp2_with fail
      refine bodyPost_ret (results_tmp Try.results28 _ _ _) rfl ?_
      rw [List.take_length] at HI
      exact ⟨_, rfl, HI.out.rows Th.cs_length, HI.out.nice, HI.out.below⟩
end Go.Proofs.Ytknnamanbeckeaa
