/- Contracts: digests put one behind the other, and taken. -/
import Derived.Test.YtoopaeahhbkncaaGreatDoorWireIn
import Derived.Test.YtoopaeahhbkncaaGreatDoorWireOut
import Derived.Test.YtoopaeahhbkncaaGreatDoorMerkleOfMem
namespace Go.Wire
theorem pad32 (l : List UInt8) : (pad l).length = 32 := by
  unfold pad
  rw [List.length_append, List.length_take, List.length_replicate]
  omega
theorem flat32 : ∀ xs : List ByteArray, ((xs.map fun s => pad s.data.toList).flatten).length = 32 * xs.length
  | [] => rfl
  | x :: xs => by
    rw [List.map_cons, List.flatten_cons, List.length_append, pad32, flat32 xs, List.length_cons]
    omega
/-- So many digests off a reader. -/
def St.hashes (q : St) : Nat → St × List ByteArray
  | 0 => (q, [])
  | n + 1 => (((q.hashes n).1.bytes 32).1, (q.hashes n).2 ++ [((q.hashes n).1.bytes 32).2])
theorem St.hashes_s (q : St) : ∀ n, (q.hashes n).1.s = q.s
  | 0 => rfl
  | n + 1 => by
    show ((q.hashes n).1.bytes 32).1.s = q.s
    rw [St.bytes_s, St.hashes_s q n]
theorem St.hashes_le (q : St) (h : q.pos ≤ q.s.size) : ∀ n, (q.hashes n).1.pos ≤ q.s.size
  | 0 => h
  | n + 1 => by
    have := St.bytes_le (q.hashes n).1 32 (by rw [St.hashes_s]; exact St.hashes_le q h n)
    rw [St.hashes_s] at this
    exact this
theorem St.hashes_length (q : St) : ∀ n, (q.hashes n).2.length = n
  | 0 => rfl
  | n + 1 => by
    show ((q.hashes n).2 ++ [_]).length = n + 1
    rw [List.length_append, St.hashes_length q n]; rfl
theorem St.hashes_stuck (q : St) (m : Nat) (h : (q.hashes m).1.err ≠ 0) : ∀ k, (q.hashes (m + k)).1 = (q.hashes m).1
  | 0 => rfl
  | k + 1 => by
    show ((q.hashes (m + k)).1.bytes 32).1 = _
    rw [St.hashes_stuck q m h k, St.bytes_err _ _ h]
end Go.Wire
namespace Go.Proofs.YtoopaeahhbkncaaGreatDoor
open Go.RowKit Go.Shelf Go.Wire Go.Mk Go.Chunk
attribute [local go_sem] Oper.semAt_some
theorem own_kept {W W' : World} {base b : Nat} {e : TypeId} {v : Value} {k : Nat} {xs : List Value} (h : W.ownsRow base e 1 v k xs) (hk : Kept b W W') (hb : b < base) : W'.ownsRow base e 1 v k xs := by
  refine h.kept (row := some b) ⟨hk.below.os, hk.below.tape, hk.below.output, hk.below.size, fun j hj hne => hk.other j (fun e => hne (by rw [e])) hj⟩ ?_
  cases ho : v.ownBlock with
  | none => exact .inl rfl
  | some j =>
    refine .inr fun e => ?_
    have := own_base h ho
    cases e
    omega
set_option maxHeartbeats 1000000 in
theorem putHashes_any (B : Nat) (v u : Value) (l : List UInt8) (xs : List ByteArray) (w : World) (h : WAt 59 B v l w) (hl : v = .pointer none ∨ l.length + 32 * xs.length ≤ 140737488355328) (hB : B ≤ w.heap.size) (hn : xs.length ≤ 1000) (hR : ∀ w', Below B w w' → StrRow.Reads w' u xs) :
    Calls Tryz.prog 30 #[v, u] w fun e w' => e = .returned (.tuple #[]) ∧ WAt 59 B v (l ++ (xs.map fun s => pad s.data.toList).flatten) w' ∧ Below B w w' := by
  obtain ⟨a, c, rfl⟩ := (hR w (Below.refl _ _)).form
  have HR := hide hR
  have HW := hide (And.intro h hB)
  have hn' : (xs.length : Int) ≤ 1000 := by omega
  have HL := hide hl
  clear hR h hB hl
  go_enter Tryz.func30, Tryz.ntmps30
  go_wp2_with fail
  go_loopw [8] (fun vi wr => ∃ i : Nat, i ≤ xs.length ∧ vi = .int .i64 i ∧ Hid (WAt 59 B v (l ++ ((xs.take i).map fun s => pad s.data.toList).flatten) wr ∧ Below B w wr)) (fun vi _ => 1000 - (intOf vi).toNat)
  case atStart => exact ⟨0, Nat.zero_le _, rfl, by simpa using HW.out.1, Below.refl _ _⟩
  case round =>
    obtain ⟨i, hi, rfl, HH⟩ := hrel
    by_cases hlt : i < xs.length
    · have hlt' : (i : Int) < xs.length := by omega
      have hrd := HR.out wr HH.out.2
      obtain ⟨b, off, cap, hv, hcap, hbl⟩ := hrd.at (by intro h; rw [h] at hlt; simp at hlt)
      simp only [Value.slice.injEq, true_and] at hv
      obtain ⟨rfl, rfl⟩ := hv
      obtain ⟨x, hx⟩ : ∃ x, xs[i]? = some x := ⟨_, List.getElem?_eq_getElem hlt⟩
      have hcell := hrd.cell hx
      have HT : Hid (((xs.take (i + 1)).map fun s => pad s.data.toList).flatten = ((xs.take i).map fun s => pad s.data.toList).flatten ++ pad x.data.toList) := by show _ = _; rw [List.take_add_one, hx]; simp
      have hln : (l ++ ((xs.take i).map fun s => pad s.data.toList).flatten).length = l.length + 32 * i := by
        rw [List.length_append, flat32, List.length_take_of_le hi]
      have HC := hide (whash_any B v _ x wr HH.out.1 (HL.out.imp id (fun h => by rw [hln]; omega)) (Nat.le_trans HW.out.2 (HH.out.2.size)))
      clear hx hrd hln
      go_wp2_with (go_at_call 26; refine HC.out.mono ?_; rintro e w2 ⟨rfl, hw2, hb2⟩; have H2 := hide (And.intro hw2 (HH.out.2.trans hb2)); clear hw2 hb2)
      go_roundw
      case rel => exact ⟨i + 1, by omega, by go_num, by rw [HT.out, ← List.append_assoc]; exact H2.out.1, H2.out.2⟩
      case measure => simp [intOf]; omega
    · have hlt' : ¬ ((i : Int) < xs.length) := by omega
      have hin : i = xs.length := by omega
      subst hin
      rw [List.take_of_length_le (Nat.le_refl _)] at HH
      go_wp2_with fail
      go_end0
      exact ⟨rfl, HH.out.1, HH.out.2⟩
set_option maxHeartbeats 1000000 in
set_option maxRecDepth 100000 in
theorem takeHashes_any (b n : Nat) (q : St) (w : World) (h : Rd 65 b q w) (hq : q.pos ≤ q.s.size) (hs : q.s.size ≤ maxLen) (hn : n ≤ 1000) :
    Calls Tryz.prog 35 #[.pointer (some ⟨b, 0, none⟩), .int .i64 n] w fun e w' => ∃ v, e = .returned v ∧ w'.ownsRow w.heap.size 9 1 v (if (q.hashes n).1.err = 0 then n else 0) (if (q.hashes n).1.err = 0 then (q.hashes n).2.map Value.string else []) ∧ Rd 65 b (q.hashes n).1 w' ∧ Kept b w w' := by
  obtain ⟨i9, hi9, hz0, hz1, hz2⟩ := info_parts ciInfo9
  have hb := h.lt
  have HRd := hide h
  have hn' : (n : Int) ≤ 1000 := by omega
  clear h
  obtain ⟨DD, HDD⟩ : ∃ DD : Nat → List Value, Hid (∀ i, DD i = (q.hashes i).2.map Value.string) := ⟨_, fun _ => rfl⟩
  have HG : Hid (∀ (V : Value) (W : World), Rd 65 b (q.hashes n).1 W → Kept b w W → ((q.hashes n).1.err = 0 → W.ownsRow w.heap.size 9 1 V n (DD n)) → ((q.hashes n).1.err ≠ 0 → V = .slice none 0 0) → ∃ v, Ending.returned V = .returned v ∧ W.ownsRow w.heap.size 9 1 v (if (q.hashes n).1.err = 0 then n else 0) (if (q.hashes n).1.err = 0 then (q.hashes n).2.map Value.string else []) ∧ Rd 65 b (q.hashes n).1 W ∧ Kept b w W) := by
    intro V W h1 h2 h3 h4
    refine ⟨V, rfl, ?_, h1, h2⟩
    by_cases he : (q.hashes n).1.err = 0
    · rw [if_pos he, if_pos he, ← HDD.out]; exact h3 he
    · rw [if_neg he, if_neg he, h4 he]; exact World.ownsRow_nil _ _ _ _
  generalize hPost : (fun (e : Ending) (w' : World) => ∃ v, e = .returned v ∧ w'.ownsRow w.heap.size 9 1 v (if (q.hashes n).1.err = 0 then n else 0) (if (q.hashes n).1.err = 0 then (q.hashes n).2.map Value.string else []) ∧ Rd 65 b (q.hashes n).1 w' ∧ Kept b w w') = Post
  have HP : Hid (∀ (V : Value) (W : World), Rd 65 b (q.hashes n).1 W → Kept b w W → ((q.hashes n).1.err = 0 → W.ownsRow w.heap.size 9 1 V n (DD n)) → ((q.hashes n).1.err ≠ 0 → V = .slice none 0 0) → Post (.returned V) W) := by
    intro V W h1 h2 h3 h4
    rw [← hPost]
    exact HG.out V W h1 h2 h3 h4
  clear HG hPost
  go_enter Tryz.func35, Tryz.ntmps35
  go_wp2_with fail
  go_loopw [5, 8] (fun vo vi wr => ∃ i : Nat, i ≤ n ∧ vi = .int .i64 i ∧ Hid (((i = 0 ∧ vo = .slice none 0 0) ∨ (q.hashes i).1.err = 0) ∧ wr.ownsRow w.heap.size 9 1 vo i (DD i) ∧ Rd 65 b (q.hashes i).1 wr ∧ Kept b w wr)) (fun _ vi _ => 1000 - (intOf vi).toNat)
  case atStart => exact ⟨0, Nat.zero_le _, rfl, .inl ⟨rfl, rfl⟩, by rw [HDD.out]; exact World.ownsRow_nil _ _ _ _, HRd.out, Kept.refl _ _⟩
  case round =>
    obtain ⟨i, hi, rfl, HH⟩ := hrel
    obtain ⟨oa, oc, hvo⟩ := own_slice HH.out.2.1
    subst hvo
    by_cases hlt : i < n
    · have hlt' : (i : Int) < n := by omega
      have HC := hide (hash_any b (q.hashes i).1 wr HH.out.2.2.1 (by rw [St.hashes_s]; exact St.hashes_le q hq i) (by rw [St.hashes_s]; exact hs))
      have e1 : ((q.hashes i).1.bytes 32).1 = (q.hashes (i + 1)).1 := rfl
      have HD : Hid (DD (i + 1) = DD i ++ [.string ((q.hashes i).1.bytes 32).2]) := by show _ = _; rw [HDD.out, HDD.out]; show ((q.hashes i).2 ++ [_]).map Value.string = _; rw [List.map_append]; rfl
      rw [e1] at HC
      clear e1
      generalize ((q.hashes i).1.bytes 32).2 = X at *
      have HE := hide (fun (w' : World) (hr : Rd 65 b (q.hashes (i + 1)).1 w') => err_any b (q.hashes (i + 1)).1 w' hr)
      by_cases he : (q.hashes (i + 1)).1.err = 0
      · rw [he] at HE
        go_wp2_with (first
          | (go_at_call 32; refine HC.out.mono ?_; rintro e w2 ⟨rfl, hr2, hk2⟩; have H2 := hide (And.intro hr2 (And.intro (own_kept HH.out.2.1 hk2 hb) (HH.out.2.2.2.trans hk2))); clear hr2 hk2)
          | (go_at_call 37; refine (HE.out _ H2.out.1).mono ?_; rintro e w2' ⟨rfl, hw⟩; subst hw)
          | (at_builtin; refine wpList_append_own _ rfl _ _ 24 rfl w.heap.size 9 i9 (.string ⟨#[]⟩) 1 16 ciUnder24 hi9 hz0 hz1 hz2 rfl (by decide) _ _ _ rfl (H2.out.2.1.alloc _) ⟨w2'.heap.size, 0, none⟩ 1 1 [.string X] rfl rfl (cell_one_new _ _ _) ?a2 ?a3 ?a4 ?a5 ?_))
        case a2 => intro u hu; simp at hu; subst hu; rfl
        case a3 => unfold maxLen; omega
        case a4 => omega
        case a5 => have h1 := H2.out.2.2.below.size; simp; omega
        intro v' w3 hown hgrow _
        have H3 : Hid (w3.ownsRow w.heap.size 9 1 v' (i + 1) (DD (i + 1)) ∧ Rd 65 b (q.hashes (i + 1)).1 w3 ∧ Kept b w w3) := by
          refine ⟨by rw [HD.out]; exact hown, ?_, ?_⟩
          · have hb2 : b < w2'.heap.size := H2.out.1.lt
            refine Rd.of_heap H2.out.1 ((hgrow.block b (by simp; omega) (fun e => ?_)).trans (heap_alloc_old _ _ hb2))
            have := own_base HH.out.2.1 e.symm
            omega
          · refine ⟨((H2.out.2.2.below.alloc (Nat.le_trans (Nat.le_of_lt hb) H2.out.2.2.below.size) _).grown hgrow (by have := H2.out.2.2.below.size; simp; omega) fun k e => Nat.le_trans (Nat.le_of_lt hb) (own_base HH.out.2.1 e)), fun k hk hl => ?_⟩
            have hkl : k < w2'.heap.size := Nat.lt_of_lt_of_le hl H2.out.2.2.below.size
            refine (hgrow.block k (by simp; omega) (fun e => ?_)).trans ((heap_alloc_old _ _ hkl).trans (H2.out.2.2.other k hk hl))
            have := own_base HH.out.2.1 e.symm
            omega
        clear hown hgrow
        go_wp2
        go_roundw
        case rel => exact ⟨i + 1, by omega, by go_num, .inr he, H3.out⟩
        case measure => simp [intOf]; omega
      · have HE2 := hide (St.hashes_stuck q (i + 1) he (n - (i + 1)))
        rw [show i + 1 + (n - (i + 1)) = n by omega] at HE2
        have hbe : ((q.hashes (i + 1)).1.err == 0) = false := beq_eq_false_iff_ne.2 he
        go_wp2_with (first
          | (go_at_call 32; refine HC.out.mono ?_; rintro e w2 ⟨rfl, hr2, hk2⟩; have H2 := hide (And.intro hr2 (HH.out.2.2.2.trans hk2)); clear hr2 hk2)
          | (go_at_call 37; refine (HE.out _ H2.out.1).mono ?_; rintro e w2' ⟨rfl, hw⟩; subst hw))
        exact HP.out _ _ (by rw [HE2.out]; exact H2.out.1) H2.out.2 (fun h0 => absurd (by rw [← HE2.out]; exact h0) he) (fun _ => rfl)
    · have hlt' : ¬ ((i : Int) < n) := by omega
      have hin : i = n := by omega
      subst hin
      go_wp2_with fail
      refine HP.out _ _ HH.out.2.2.1 HH.out.2.2.2 (fun _ => HH.out.2.1) (fun he => ?_)
      rcases HH.out.1 with ⟨_, h⟩ | h
      · exact h
      · exact absurd h he
end Go.Proofs.YtoopaeahhbkncaaGreatDoor
