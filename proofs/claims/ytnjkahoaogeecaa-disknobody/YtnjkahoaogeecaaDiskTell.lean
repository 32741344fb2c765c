/- Contracts: what a disk tells: a file's bytes, the names, sorted. -/
import Derived.Test.YtnjkahoaogeecaaDiskFind
import Derived.Test.YtnjkahoaogeecaaDiskShelf
import Derived.Laws.IdiomStrings
namespace Go.Dk
open Go.RowKit Go.Maps
/-- string(b). -/
theorem run_to_str {P : Program} (w : World) (src dst e : TypeId) {base : Nat} {v : Value} (l : Bs) (h : Row base w v l)
    (hs : P.underlying src = some (.slice e)) (he : P.underlying e = some (.int .u8)) (hd : P.underlying dst = some .string) : (convert src dst v).run P w = .ok (.string ⟨l.toArray⟩) w := by
  rcases h.2 with ⟨rfl, h0⟩ | ⟨g, cap, cur, rfl, _⟩
  · have : l = [] := List.eq_nil_of_length_eq_zero h0
    subst this
    rw [run_convert_bytes_string w src dst e none 0 0 hs he hd]
    rfl
  · refine run_convert_bytes_back w src dst e ⟨g, 0, none⟩ cap l hs he hd fun j hj => ?_
    have hc := h.cells (g := g) rfl j (.int .u8 (l[j].toNat : Int)) (by simp [bs, hj])
    exact hc
theorem before_lt : ∀ {a b : Bs}, bytesBefore a b = true → a ≤ b
  | [], b, _ => List.nil_le b
  | x :: a, [], h => by simp [bytesBefore] at h
  | x :: a, y :: b, h => by
    simp only [bytesBefore, Bool.or_eq_true, decide_eq_true_eq, Bool.and_eq_true, beq_iff_eq] at h
    rcases h with h | ⟨rfl, h⟩
    · exact List.le_of_lt (List.Lex.rel h)
    · exact List.cons_le_cons_iff.2 (.inr ⟨rfl, before_lt h⟩)
theorem sorted_names {fs : List WF} (h : Rises WF.nm fs) : (fs.map WF.nm).mergeSort (fun x y => decide (x ≤ y)) = fs.map WF.nm := by
  refine List.mergeSort_of_pairwise ?_
  rw [List.pairwise_map]
  exact List.Pairwise.imp (fun {a b} hab => by simpa using before_lt hab) h
end Go.Dk
namespace Go.Proofs.Ytnjkahoaogeecaa
open Go.RowKit Go.Dk Go.Maps Go.Sort Go.Shelf
theorem read_err (base K d : Nat) (S : WD) (s : ByteArray) (r : Int) (w : World) (h : DiskAt Try.prog base K d w S) (hs : s.size ≤ maxLen) (hr : ableOf S.a s.data.toList = r) (h0 : r ≠ 0) :
    Calls Try.prog 19 #[.pointer (some ⟨d, 0, none⟩), .string s] w fun e w' => e = .returned (.tuple #[.string ⟨#[]⟩, .int .i64 r]) ∧ w' = w := by
  have HA := hide (find_err base K d S s r w h hs hr h0)
  clear h hs hr
  have hne : (r != 0) = true := by simpa using h0
  go_enter Try.func19, Try.ntmps19
  go_wp2_with (go_at_call 42; refine HA.out.mono ?_; rintro e w' ⟨rfl, rfl⟩)
  go_ret2
  exact ⟨rfl, rfl⟩
theorem read_nil (s : ByteArray) (w : World) : Calls Try.prog 19 #[.pointer none, .string s] w fun e w' => e = .returned (.tuple #[.string ⟨#[]⟩, .int .i64 7]) ∧ w' = w := by
  go_enter Try.func19, Try.ntmps19
  go_wp2_with (go_at_call 42; refine (find_nil s _).mono ?_; rintro e w' ⟨rfl, rfl⟩)
  go_ret2
  exact ⟨rfl, rfl⟩
theorem read_some (base K d : Nat) (S : WD) (s : ByteArray) (F : WF) (w : World) (h : DiskAt Try.prog base K d w S) (hs : s.size ≤ maxLen) (hr : ableOf S.a s.data.toList = 0) (hf : seek WF.nm s.data.toList S.fs = some F) :
    Calls Try.prog 19 #[.pointer (some ⟨d, 0, none⟩), .string s] w fun e w' => e = .returned (.tuple #[.string ⟨F.a.bytes.toArray⟩, .int .i64 0]) ∧ w' = w := by
  have HA := hide (find_some base K d S s F w h hs hr hf)
  have hF := (seek_some hf).1
  have HN := hide (now_any base F w (h.files.files F hF) (h.pieces hF).1)
  have hcv := run_to_str (P := Try.prog) w 70 9 5 _ (h.files.files F hF).now Try.underlying70 Try.underlying5 Try.underlying9
  clear h hs hr hf hF
  generalize F.blk = B at *
  generalize F.nowV = v at *
  go_enter Try.func19, Try.ntmps19
  go_wp2_with (first
    | (go_at_call 42; refine HA.out.mono ?_; rintro e w' ⟨rfl, rfl⟩)
    | (go_at_call 40; refine HN.out.mono ?_; rintro e w' ⟨rfl, rfl⟩))
  go_ret2
  exact ⟨rfl, rfl⟩
theorem names_nil (w : World) : Calls Try.prog 21 #[.pointer none] w fun e w' => e = .returned (.slice none 0 0) ∧ w' = w := by
  go_enter Try.func21, Try.ntmps21
  go_wp2
  go_ret
  exact ⟨rfl, rfl⟩
set_option maxHeartbeats 1000000 in
/-- The names, in a slice of their own. -/
theorem names_any (base K d : Nat) (S : WD) (w : World) (h : DiskAt Try.prog base K d w S) :
    Calls Try.prog 21 #[.pointer (some ⟨d, 0, none⟩)] w fun e w' => ∃ v, e = .returned v ∧ w'.ownsRow w.heap.size 9 1 v S.fs.length ((S.fs.map WF.nm).map encStr) ∧ Below w.heap.size w w' := by
  obtain ⟨c0, -⟩ := cells6 h.row
  have hsz : Maps.size (Dfs S.fs) = S.fs.length := size_Dof S.fs
  have hkeys : strKeys (Dfs S.fs) = S.fs.map WF.nm := strKeys_Dof S.fs
  have hsort := sorted_names h.files.rises
  have hcnt := h.count
  have hlim := h.lim
  have hfin : ∀ (w1 w' : World) (v : Value) (ss : List (List UInt8)), ss.Perm (S.fs.map WF.nm) → w'.ownsRow w1.heap.size 9 1 v ss.length ((ss.mergeSort (fun x y => decide (x ≤ y))).map encStr) → Below w.heap.size w w1 → Below w1.heap.size w1 w' →
      w'.ownsRow w.heap.size 9 1 v S.fs.length ((S.fs.map WF.nm).map encStr) ∧ Below w.heap.size w w' := fun w1 w' v ss hp ho hb1 hb2 => by
    have e1 : ss.mergeSort (fun x y => decide (x ≤ y)) = S.fs.map WF.nm := (mergeSort_of_perm hp).trans hsort
    have e2 : ss.length = S.fs.length := by rw [hp.length_eq]; simp
    rw [e1, e2] at ho
    exact ⟨ownsRow_base ho hb1.size, hb1.trans (hb2.mono hb1.size)⟩
  rcases h.map with ⟨hm, hn⟩ | ⟨b, n, hm, hb, hn, hown⟩
  · rw [hm] at c0
    have HS := hide (sorted_none w)
    have HF := hide hfin
    clear h hfin
    refine (callsIn_wide (n := 6)).1 ?_
    have hfK : Fence.wide.fn 48 := trivial
    have hfS : Fence.wide.fn 47 := trivial
    refine callsIn_of_wp Try.func21 rfl trivial ?_ rfl
    simp only [Try.ntmps21, List.size_toArray, List.length_cons, List.length_nil, Nat.reduceAdd, Nat.reduceSub, Array.replicate_succ, Array.replicate_zero, List.push_toArray, List.append_toArray, List.nil_append, List.cons_append]
    gi_wp2_with (first
      | (gi_at_call 48; refine (keys_in _ _).mono ?_; rintro e w' ⟨rfl, rfl⟩)
      | (gi_at_call 47; refine HS.out.mono ?_; rintro e w' ⟨v, ss, rfl, hS, hrow, hnil, hb⟩))
    go_ret
    exact ⟨v, rfl, HF.out _ w' v ss (by rw [hS, hn]; exact List.Perm.refl _) hrow ((Below.refl _ w).alloc (Nat.le_refl _) _) hb⟩
  · rw [hm] at c0
    have HS := hide (sorted_in b n (Dfs S.fs) Rp w hown (by rw [hsz]; unfold maxLen; omega) (by rw [hsz]; omega))
    have HF := hide hfin
    clear h hfin
    refine (callsIn_wide (n := 6)).1 ?_
    have hfK : Fence.wide.fn 48 := trivial
    have hfS : Fence.wide.fn 47 := trivial
    refine callsIn_of_wp Try.func21 rfl trivial ?_ rfl
    simp only [Try.ntmps21, List.size_toArray, List.length_cons, List.length_nil, Nat.reduceAdd, Nat.reduceSub, Array.replicate_succ, Array.replicate_zero, List.push_toArray, List.append_toArray, List.nil_append, List.cons_append]
    gi_wp2_with (first
      | (gi_at_call 48; refine (keys_in _ _).mono ?_; rintro e w' ⟨rfl, rfl⟩)
      | (gi_at_call 47; refine HS.out.mono ?_; rintro e w' ⟨v, ss, rfl, hS, hrow, hnil, hb⟩))
    go_ret
    exact ⟨v, rfl, HF.out _ w' v ss (by rw [← hkeys]; exact hS) hrow ((Below.refl _ w).alloc (Nat.le_refl _) _) hb⟩
end Go.Proofs.Ytnjkahoaogeecaa
