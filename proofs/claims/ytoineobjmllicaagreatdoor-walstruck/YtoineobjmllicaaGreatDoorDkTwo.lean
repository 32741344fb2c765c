/- Several texts in one: DiskFind, DiskTell, DiskSums. -/
import Derived.Test.YtoineobjmllicaaGreatDoorDkFour
import Derived.Test.YtoineobjmllicaaGreatDoorShelfTwo
import Derived.Laws.IdiomStrings
import Derived.Test.YtoineobjmllicaaGreatDoorFallOne
/- Contracts: which file has a name, what may be asked of a disk; a file's bytes. -/
namespace Go.Proofs.YtoineobjmllicaaGreatDoor
open Go.RowKit Go.Dk
variable {M : Nat → Prop}
theorem able_any (base K d : Nat) (S : WD) (s : ByteArray) (r : Int) (w : World) (h : DiskAt Tryz.prog M base K d w S) (hs : s.size ≤ maxLen) (hr : ableOf S.a s.data.toList = r) :
    Calls Tryz.prog 58 #[.pointer (some ⟨d, 0, none⟩), .string s] w fun e w' => e = .returned (.int .i64 r) ∧ w' = w := by
  have HD := hide (dead_any d _ _ _ _ _ _ w h.row)
  unfold ableOf at hr
  cases hd : S.a.down with
  | true =>
    rw [hd] at hr HD
    simp only [if_true] at hr
    subst hr
    go_enter Tryz.func58, Tryz.ntmps58
    go_wp2_with (go_at_call 27; refine HD.out.mono ?_; rintro e w' ⟨rfl, rfl⟩)
    go_ret
    exact ⟨rfl, rfl⟩
  | false =>
    rw [hd] at hr HD
    simp only [Bool.false_eq_true, if_false] at hr
    have HN := hide (fun w => name_any s w hs)
    cases hn : nameOk s.data.toList with
    | true =>
      rw [hn] at hr HN
      simp only [if_true] at hr
      subst hr
      go_enter Tryz.func58, Tryz.ntmps58
      go_wp2_with (first
        | (go_at_call 27; refine HD.out.mono ?_; rintro e w' ⟨rfl, rfl⟩)
        | (go_at_call 85; refine (HN.out _).mono ?_; rintro e w' ⟨rfl, rfl⟩))
      go_ret
      exact ⟨rfl, rfl⟩
    | false =>
      rw [hn] at hr HN
      simp only [Bool.false_eq_true, if_false] at hr
      subst hr
      go_enter Tryz.func58, Tryz.ntmps58
      go_wp2_with (first
        | (go_at_call 27; refine HD.out.mono ?_; rintro e w' ⟨rfl, rfl⟩)
        | (go_at_call 85; refine (HN.out _).mono ?_; rintro e w' ⟨rfl, rfl⟩))
      go_ret
      exact ⟨rfl, rfl⟩
theorem able_nil (s : ByteArray) (w : World) : Calls Tryz.prog 58 #[.pointer none, .string s] w fun e w' => e = .returned (.int .i64 7) ∧ w' = w := by
  go_enter Tryz.func58, Tryz.ntmps58
  go_wp2_with (go_at_call 27; refine (dead_nil _).mono ?_; rintro e w' ⟨rfl, rfl⟩)
  go_ret
  exact ⟨rfl, rfl⟩
theorem look_any {base K d : Nat} {S : WD} {w : World} (h : DiskAt Tryz.prog M base K d w S) (s : ByteArray) (hs : s.size ≤ maxLen) :
    (Instr.lookup 65 (.map S.mb) (.string s) false).run Tryz.prog w = .ok (match seek WF.nm s.data.toList S.fs with | some F => fptr F.blk | none => .pointer none) w :=
  h.map.look Tryz.underlying9 Tryz.underlying65 (Tryz.zeroValue79 w) s hs
theorem find_err (base K d : Nat) (S : WD) (s : ByteArray) (r : Int) (w : World) (h : DiskAt Tryz.prog M base K d w S) (hs : s.size ≤ maxLen) (hr : ableOf S.a s.data.toList = r) (h0 : r ≠ 0) :
    Calls Tryz.prog 93 #[.pointer (some ⟨d, 0, none⟩), .string s] w fun e w' => e = .returned (.tuple #[.pointer none, .int .i64 r]) ∧ w' = w := by
  have HA := hide (able_any base K d S s r w h hs hr)
  clear h hs hr
  have hne : (r != 0) = true := by simpa using h0
  go_enter Tryz.func93, Tryz.ntmps93
  go_wp2_with (go_at_call 58; refine HA.out.mono ?_; rintro e w' ⟨rfl, rfl⟩)
  go_ret2
  exact ⟨rfl, rfl⟩
theorem find_nil (s : ByteArray) (w : World) : Calls Tryz.prog 93 #[.pointer none, .string s] w fun e w' => e = .returned (.tuple #[.pointer none, .int .i64 7]) ∧ w' = w := by
  go_enter Tryz.func93, Tryz.ntmps93
  go_wp2_with (go_at_call 58; refine (able_nil s _).mono ?_; rintro e w' ⟨rfl, rfl⟩)
  go_ret2
  exact ⟨rfl, rfl⟩
theorem find_none (base K d : Nat) (S : WD) (s : ByteArray) (w : World) (h : DiskAt Tryz.prog M base K d w S) (hs : s.size ≤ maxLen) (hr : ableOf S.a s.data.toList = 0) (hf : seek WF.nm s.data.toList S.fs = none) :
    Calls Tryz.prog 93 #[.pointer (some ⟨d, 0, none⟩), .string s] w fun e w' => e = .returned (.tuple #[.pointer none, .int .i64 2]) ∧ w' = w := by
  have HA := hide (able_any base K d S s 0 w h hs hr)
  have hl := look_any h s hs
  rw [hf] at hl
  simp only at hl
  obtain ⟨c0, -⟩ := cells6 h.row
  clear h hs hr hf
  go_enter Tryz.func93, Tryz.ntmps93
  go_wp2_with (go_at_call 58; refine HA.out.mono ?_; rintro e w' ⟨rfl, rfl⟩)
  go_ret2
  exact ⟨rfl, rfl⟩
theorem find_some (base K d : Nat) (S : WD) (s : ByteArray) (F : WF) (w : World) (h : DiskAt Tryz.prog M base K d w S) (hs : s.size ≤ maxLen) (hr : ableOf S.a s.data.toList = 0) (hf : seek WF.nm s.data.toList S.fs = some F) :
    Calls Tryz.prog 93 #[.pointer (some ⟨d, 0, none⟩), .string s] w fun e w' => e = .returned (.tuple #[.pointer (some ⟨F.blk, 0, none⟩), .int .i64 0]) ∧ w' = w := by
  have HA := hide (able_any base K d S s 0 w h hs hr)
  have hl := look_any h s hs
  rw [hf] at hl
  simp only [fptr] at hl
  obtain ⟨c0, -⟩ := cells6 h.row
  clear h hs hr hf
  generalize F.blk = B at *
  go_enter Tryz.func93, Tryz.ntmps93
  go_wp2_with (go_at_call 58; refine HA.out.mono ?_; rintro e w' ⟨rfl, rfl⟩)
  go_ret2
  exact ⟨rfl, rfl⟩
theorem open_none (base K d : Nat) (S : WD) (s : ByteArray) (w : World) (h : DiskAt Tryz.prog M base K d w S) (hs : s.size ≤ maxLen) (hf : seek WF.nm s.data.toList S.fs = none) :
    Calls Tryz.prog 60 #[.pointer (some ⟨d, 0, none⟩), .string s] w fun e w' => e = .returned (.pointer (some ⟨w.heap.size, 0, none⟩)) ∧ w'.heap[w.heap.size]? = some (.cells #[.bool false, .slice none 0 0, .slice none 0 0] 118 (0, 0)) ∧ Below w.heap.size w w' ∧ w'.heap.size = w.heap.size + 1 := by
  have hl := look_any h s hs
  rw [hf] at hl
  simp only at hl
  obtain ⟨c0, -⟩ := cells6 h.row
  clear h hs hf
  go_enter Tryz.func60, Tryz.ntmps60
  go_wp2
  go_ret
  exact ⟨rfl, heap_alloc_new _ _, (Below.refl _ _).alloc (Nat.le_refl _) _, by simp⟩
theorem open_some (base K d : Nat) (S : WD) (s : ByteArray) (F : WF) (w : World) (h : DiskAt Tryz.prog M base K d w S) (hs : s.size ≤ maxLen) (hf : seek WF.nm s.data.toList S.fs = some F) :
    Calls Tryz.prog 60 #[.pointer (some ⟨d, 0, none⟩), .string s] w fun e w' => e = .returned (.pointer (some ⟨F.blk, 0, none⟩)) ∧ w' = w := by
  have hl := look_any h s hs
  rw [hf] at hl
  simp only [fptr] at hl
  obtain ⟨c0, -⟩ := cells6 h.row
  clear h hs hf
  generalize F.blk = B at *
  go_enter Tryz.func60, Tryz.ntmps60
  go_wp2
  go_ret
  exact ⟨rfl, rfl⟩
end Go.Proofs.YtoineobjmllicaaGreatDoor
/- Contracts: what a disk tells: a file's bytes, the names, sorted. -/
namespace Go.Dk
open Go.RowKit Go.Maps
variable {M : Nat → Prop}
/-- string(b). -/
theorem run_to_str {P : Program} (w : World) (src dst e : TypeId) {base : Nat} {v : Value} (l : Bs) (h : Row base w v l)
    (hs : P.underlying src = some (.slice e)) (he : P.underlying e = some (.int .u8)) (hd : P.underlying dst = some .string) : (convert src dst v).run P w = .ok (.string ⟨l.toArray⟩) w := by
  rcases h.2 with ⟨rfl, h0⟩ | ⟨g, cap, cur, rfl, _⟩
  · have : l = [] := List.eq_nil_of_length_eq_zero h0
    subst this
    rw [run_convert_bytes_string w src dst e none 0 0 hs he hd]
    rfl
  · refine run_convert_bytes_back w src dst e ⟨g, 0, none⟩ cap l hs he hd fun j hj => ?_
    have hc := h.cells (g := g) rfl j (.int .u8 (l[j].toNat : Int)) (by simp [bs, hj])
    exact hc
theorem before_lt : ∀ {a b : Bs}, bytesBefore a b = true → a ≤ b
  | [], b, _ => List.nil_le b
  | x :: a, [], h => by simp [bytesBefore] at h
  | x :: a, y :: b, h => by
    simp only [bytesBefore, Bool.or_eq_true, decide_eq_true_eq, Bool.and_eq_true, beq_iff_eq] at h
    rcases h with h | ⟨rfl, h⟩
    · exact List.le_of_lt (List.Lex.rel h)
    · exact List.cons_le_cons_iff.2 (.inr ⟨rfl, before_lt h⟩)
theorem sorted_names {fs : List WF} (h : Rises WF.nm fs) : (fs.map WF.nm).mergeSort (fun x y => decide (x ≤ y)) = fs.map WF.nm := by
  refine List.mergeSort_of_pairwise ?_
  rw [List.pairwise_map]
  exact List.Pairwise.imp (fun {a b} hab => by simpa using before_lt hab) h
end Go.Dk
namespace Go.Proofs.YtoineobjmllicaaGreatDoor
open Go.RowKit Go.Dk Go.Maps Go.Sort Go.Shelf
variable {M : Nat → Prop}
theorem read_err (base K d : Nat) (S : WD) (s : ByteArray) (r : Int) (w : World) (h : DiskAt Tryz.prog M base K d w S) (hs : s.size ≤ maxLen) (hr : ableOf S.a s.data.toList = r) (h0 : r ≠ 0) :
    Calls Tryz.prog 66 #[.pointer (some ⟨d, 0, none⟩), .string s] w fun e w' => e = .returned (.tuple #[.string ⟨#[]⟩, .int .i64 r]) ∧ w' = w := by
  have HA := hide (find_err base K d S s r w h hs hr h0)
  clear h hs hr
  have hne : (r != 0) = true := by simpa using h0
  go_enter Tryz.func66, Tryz.ntmps66
  go_wp2_with (go_at_call 93; refine HA.out.mono ?_; rintro e w' ⟨rfl, rfl⟩)
  go_ret2
  exact ⟨rfl, rfl⟩
theorem read_nil (s : ByteArray) (w : World) : Calls Tryz.prog 66 #[.pointer none, .string s] w fun e w' => e = .returned (.tuple #[.string ⟨#[]⟩, .int .i64 7]) ∧ w' = w := by
  go_enter Tryz.func66, Tryz.ntmps66
  go_wp2_with (go_at_call 93; refine (find_nil s _).mono ?_; rintro e w' ⟨rfl, rfl⟩)
  go_ret2
  exact ⟨rfl, rfl⟩
theorem read_some (base K d : Nat) (S : WD) (s : ByteArray) (F : WF) (w : World) (h : DiskAt Tryz.prog M base K d w S) (hs : s.size ≤ maxLen) (hr : ableOf S.a s.data.toList = 0) (hf : seek WF.nm s.data.toList S.fs = some F) :
    Calls Tryz.prog 66 #[.pointer (some ⟨d, 0, none⟩), .string s] w fun e w' => e = .returned (.tuple #[.string ⟨F.a.bytes.toArray⟩, .int .i64 0]) ∧ w' = w := by
  have HA := hide (find_some base K d S s F w h hs hr hf)
  have hF := (seek_some hf).1
  have HN := hide (now_any base F w (h.files.files F hF) (h.pieces hF).1)
  have hcv := run_to_str (P := Tryz.prog) w 100 9 5 _ (h.files.files F hF).now Tryz.underlying100 Tryz.underlying5 Tryz.underlying9
  clear h hs hr hf hF
  generalize F.blk = B at *
  generalize F.nowV = v at *
  go_enter Tryz.func66, Tryz.ntmps66
  go_wp2_with (first
    | (go_at_call 93; refine HA.out.mono ?_; rintro e w' ⟨rfl, rfl⟩)
    | (go_at_call 63; refine HN.out.mono ?_; rintro e w' ⟨rfl, rfl⟩))
  go_ret2
  exact ⟨rfl, rfl⟩
theorem names_nil (w : World) : Calls Tryz.prog 24 #[.pointer none] w fun e w' => e = .returned (.slice none 0 0) ∧ w' = w := by
  go_enter Tryz.func24, Tryz.ntmps24
  go_wp2
  go_ret
  exact ⟨rfl, rfl⟩
set_option maxHeartbeats 1000000 in
/-- The names, in a slice of their own. -/
theorem names_any (base K d : Nat) (S : WD) (w : World) (h : DiskAt Tryz.prog M base K d w S) :
    Calls Tryz.prog 24 #[.pointer (some ⟨d, 0, none⟩)] w fun e w' => ∃ v, e = .returned v ∧ w'.ownsRow w.heap.size 9 1 v S.fs.length ((S.fs.map WF.nm).map encStr) ∧ Below w.heap.size w w' := by
  obtain ⟨c0, -⟩ := cells6 h.row
  have hsz : Maps.size (Dfs S.fs) = S.fs.length := size_Dof S.fs
  have hkeys : strKeys (Dfs S.fs) = S.fs.map WF.nm := strKeys_Dof S.fs
  have hsort := sorted_names h.files.rises
  have hcnt := h.count
  have hlim := h.lim
  have hfin : ∀ (w1 w' : World) (v : Value) (ss : List (List UInt8)), ss.Perm (S.fs.map WF.nm) → w'.ownsRow w1.heap.size 9 1 v ss.length ((ss.mergeSort (fun x y => decide (x ≤ y))).map encStr) → Below w.heap.size w w1 → Below w1.heap.size w1 w' →
      w'.ownsRow w.heap.size 9 1 v S.fs.length ((S.fs.map WF.nm).map encStr) ∧ Below w.heap.size w w' := fun w1 w' v ss hp ho hb1 hb2 => by
    have e1 : ss.mergeSort (fun x y => decide (x ≤ y)) = S.fs.map WF.nm := (mergeSort_of_perm hp).trans hsort
    have e2 : ss.length = S.fs.length := by rw [hp.length_eq]; simp
    rw [e1, e2] at ho
    exact ⟨ownsRow_base ho hb1.size, hb1.trans (hb2.mono hb1.size)⟩
  rcases h.map with ⟨hm, hn⟩ | ⟨b, n, hm, hb, hn, hown⟩
  · rw [hm] at c0
    have HS := hide (sorted_none w)
    have HF := hide hfin
    clear h hfin
    refine (callsIn_wide (n := 6)).1 ?_
    have hfK : Fence.wide.fn 53 := trivial
    have hfS : Fence.wide.fn 52 := trivial
    refine callsIn_of_wp Tryz.func24 rfl trivial ?_ rfl
    simp only [Tryz.ntmps24, List.size_toArray, List.length_cons, List.length_nil, Nat.reduceAdd, Nat.reduceSub, Array.replicate_succ, Array.replicate_zero, List.push_toArray, List.append_toArray, List.nil_append, List.cons_append]
    gi_wp2_with (first
      | (gi_at_call 53; refine (keys_in _ _).mono ?_; rintro e w' ⟨rfl, rfl⟩)
      | (gi_at_call 52; refine HS.out.mono ?_; rintro e w' ⟨v, ss, rfl, hS, hrow, hnil, hb⟩))
    go_ret
    exact ⟨v, rfl, HF.out _ w' v ss (by rw [hS, hn]; exact List.Perm.refl _) hrow ((Below.refl _ w).alloc (Nat.le_refl _) _) hb⟩
  · rw [hm] at c0
    have HS := hide (sorted_in b n (Dfs S.fs) Rp w hown (by rw [hsz]; unfold maxLen; omega) (by rw [hsz]; omega))
    have HF := hide hfin
    clear h hfin
    refine (callsIn_wide (n := 6)).1 ?_
    have hfK : Fence.wide.fn 53 := trivial
    have hfS : Fence.wide.fn 52 := trivial
    refine callsIn_of_wp Tryz.func24 rfl trivial ?_ rfl
    simp only [Tryz.ntmps24, List.size_toArray, List.length_cons, List.length_nil, Nat.reduceAdd, Nat.reduceSub, Array.replicate_succ, Array.replicate_zero, List.push_toArray, List.append_toArray, List.nil_append, List.cons_append]
    gi_wp2_with (first
      | (gi_at_call 53; refine (keys_in _ _).mono ?_; rintro e w' ⟨rfl, rfl⟩)
      | (gi_at_call 52; refine HS.out.mono ?_; rintro e w' ⟨v, ss, rfl, hS, hrow, hnil, hb⟩))
    go_ret
    exact ⟨v, rfl, HF.out _ w' v ss (by rw [← hkeys]; exact hS) hrow ((Below.refl _ w).alloc (Nat.le_refl _) _) hb⟩
end Go.Proofs.YtoineobjmllicaaGreatDoor
/- Contracts: how many bytes all files have, how many pieces are loose: sums over a map in whatever order. -/
namespace Go.Dk
open Go.RowKit Go.Maps
variable {M : Nat → Prop}
/-- The sum over those that are no longer to come. -/
def doneSum (g : WF → Nat) (left : Lit → Bool) (fs : List WF) : Nat := (fs.map fun F => if left (.string F.nm) = true then 0 else g F).sum
theorem doneSum_start (g : WF → Nat) {fs : List WF} (h : Rises WF.nm fs) : doneSum g (has (Dfs fs)) fs = 0 := by
  unfold doneSum
  have : ∀ F ∈ fs, (if has (Dfs fs) (.string F.nm) = true then 0 else g F) = 0 := fun F hF => by
    rw [Dof_has, seek_mem h hF]
    rfl
  rw [List.map_congr_left this, List.map_const', List.sum_replicate_nat]
  exact Nat.mul_zero _
theorem doneSum_end (g : WF → Nat) {left : Lit → Bool} (fs : List WF) (h : ∀ kl, left kl = false) : doneSum g left fs = (fs.map g).sum := by
  unfold doneSum
  simp [h]
theorem doneSum_le (g : WF → Nat) (left : Lit → Bool) (fs : List WF) (m : Nat) (h : ∀ F ∈ fs, g F ≤ m) : doneSum g left fs ≤ fs.length * m := by
  unfold doneSum
  induction fs with
  | nil => simp
  | cons F fs ih =>
    have h1 := h F (by simp)
    have h2 := ih fun G hG => h G (by simp [hG])
    simp only [List.map_cons, List.sum_cons, List.length_cons, Nat.add_mul, Nat.one_mul]
    split <;> omega
theorem doneSum_skip (g : WF → Nat) (left : Lit → Bool) (k : Bs) : ∀ {fs : List WF}, (∀ G ∈ fs, G.nm ≠ k) → doneSum g (fun z => left z && !z.sameKey (.string k)) fs = doneSum g left fs
  | [], _ => rfl
  | G :: fs, h => by
    have h2 := doneSum_skip g left k (fs := fs) fun H hH => h H (by simp [hH])
    unfold doneSum at h2 ⊢
    simp only [List.map_cons, List.sum_cons]
    rw [h2]
    simp [same_str, h G (by simp)]
theorem doneSum_step (g : WF → Nat) (left : Lit → Bool) (F : WF) (hl : left (.string F.nm) = true) : ∀ {fs : List WF}, Rises WF.nm fs → F ∈ fs → doneSum g (fun z => left z && !z.sameKey (.string F.nm)) fs = doneSum g left fs + g F
  | G :: fs, h, hF => by
    rcases List.mem_cons.1 hF with rfl | hF
    · have h2 := doneSum_skip g left F.nm (fs := fs) fun H hH e => by have := h.head H hH; rw [e, WideAt.bytes_irrefl] at this; cases this
      unfold doneSum at h2 ⊢
      simp only [List.map_cons, List.sum_cons]
      rw [h2]
      simp [same_str, hl]
      omega
    · have h2 := doneSum_step g left F hl h.tail hF
      have hne : G.nm ≠ F.nm := fun e => by have := h.head F hF; rw [e, WideAt.bytes_irrefl] at this; cases this
      unfold doneSum at h2 ⊢
      simp only [List.map_cons, List.sum_cons]
      rw [h2]
      simp [same_str, hne]
      omega
/-- Which file comes up. -/
theorem comes_up {fs : List WF} {kl : Lit} {P : Program} {x : List UInt8} (h9 : P.underlying 9 = some .string) (hkey : keyOf P 9 (Go.Proofs.encStr x) = some kl) {y : DataW Unit × List MemPlace} {c : Nat} (hv : Rp (fptr c) = some y) (hat : ∀ zd, (Dfs fs).atKey kl zd = y.1) : ∃ F ∈ fs, kl = .string F.nm ∧ c = F.blk := by
  obtain ⟨x', hx', rfl, _⟩ := Maps.keyOf_str h9 hkey
  obtain ⟨c', hc', rfl⟩ := Rp_inv hv
  have := hat .nil
  rw [Dof_at] at this
  cases hs : seek WF.nm x' fs with
  | none => rw [hs] at this; cases this
  | some F =>
    rw [hs] at this
    simp only [DataW.lit.injEq, Lit.int.injEq, true_and] at this
    obtain ⟨h1, h2⟩ := seek_some hs
    cases hc'
    exact ⟨F, h1, by rw [h2], by omega⟩
theorem Below.grown_new {w w1 w2 : World} {r : Nat} (h : Below w.heap.size w w1) (hg : w1.grownBy w2 (some r)) (hr : w.heap.size ≤ r) : Below w.heap.size w w2 :=
  ⟨hg.os.trans h.os, hg.tape.trans h.tape, hg.output.trans h.output, Nat.le_trans h.size hg.size, fun k hk => (hg.block k (Nat.lt_of_lt_of_le hk h.size) (fun e => by cases e; omega)).trans (h.block k hk)⟩
theorem Below.of_grown_none {w w2 : World} (hg : w.grownBy w2 none) : Below w.heap.size w w2 := ⟨hg.os, hg.tape, hg.output, hg.size, fun k hk => hg.block k hk (by simp)⟩
end Go.Dk
namespace Go.Proofs.YtoineobjmllicaaGreatDoor
open Go.RowKit Go.Dk Go.Maps
variable {M : Nat → Prop}
theorem law9 : Keyed Tryz.prog 9 := string_keyed Tryz.underlying9
theorem inv9 : ∀ key kl, keyOf Tryz.prog 9 key = some kl → ∃ x, key = encStr x := fun key kl h => by
  obtain ⟨x, hx, _⟩ := Maps.keyOf_str Tryz.underlying9 h
  exact ⟨x, hx⟩
theorem invP : ∀ v y, Rp v = some y → ∃ c, v = fptr c := fun _ _ h => (Rp_inv h).imp fun _ e => e.1
theorem used_nil (w : World) : Calls Tryz.prog 36 #[.pointer none] w fun e w' => e = .returned (.int .i64 0) ∧ w' = w := by
  go_enter Tryz.func36, Tryz.ntmps36
  go_wp2
  go_ret
  exact ⟨rfl, rfl⟩
set_option maxRecDepth 5000 in
set_option maxHeartbeats 1000000 in
theorem used_any (base K d : Nat) (S : WD) (w : World) (h : DiskAt Tryz.prog M base K d w S) :
    Calls Tryz.prog 36 #[.pointer (some ⟨d, 0, none⟩)] w fun e w' => e = .returned (.int .i64 (total S.a.files)) ∧ Below w.heap.size w w' := by
  have htot : total S.a.files = (S.fs.map fun F => F.a.bytes.length).sum := by rw [← h.same]; unfold total; rw [List.map_map]; rfl
  rw [htot]
  clear htot
  obtain ⟨c0, -⟩ := cells6 h.row
  rcases h.map with ⟨hm, hn⟩ | ⟨b, n, hm, hb, hnK, hown⟩
  · rw [hm] at c0
    rw [hn]
    clear h
    have hrg := run_range_nilMap (P := Tryz.prog) w 65 9 79 Tryz.underlying65
    have hnx : ∀ ty, (Instr.next (.pointer (some ⟨w.heap.size, 0, none⟩)) false ty).run Tryz.prog (w.alloc (.mapIter none 0 #[] 0)) = _ := fun ty => run_next_nilMap w ty 0 0 #[]
    go_enter Tryz.func36, Tryz.ntmps36
    go_wp2
    refine wp_loop_rounds 1 ?_
    rw [rounds_succ]
    go_wp2
    go_ret
    exact ⟨rfl, (Below.refl _ _).alloc (Nat.le_refl _) _⟩
  · rw [hm] at c0
    have HN : Hid (∀ F ∈ S.fs, ∀ wr, Below w.heap.size w wr → Calls Tryz.prog 63 #[.pointer (some ⟨F.blk, 0, none⟩)] wr fun e w' => e = .returned F.nowV ∧ w' = wr) := fun F hF wr hb => now_any base F wr (h.files.below hb |>.files F hF) (h.pieces hF).1
    have HV : Hid (∀ F ∈ S.fs, ∃ a c, F.nowV = .slice a F.a.bytes.length c) := fun F hF => (h.files.files F hF).now.form
    have HR : Hid (Rises WF.nm S.fs) := h.files.rises
    have HB : Hid (∀ left, doneSum (fun F => F.a.bytes.length) left S.fs ≤ 1000000000000) := fun left => by
      have := doneSum_le (fun F => F.a.bytes.length) left S.fs 10000000 fun F hF => (h.pieces hF).2.2
      have h1 := h.count
      have h2 := h.lim
      have : S.fs.length * 10000000 ≤ 5000 * 10000000 := Nat.mul_le_mul_right _ (by omega)
      omega
    have HL : Hid (∀ F ∈ S.fs, F.a.bytes.length ≤ 10000000) := fun F hF => (h.pieces hF).2.2
    have hbw := hown.lt
    clear h
    generalize S.fs = fs at *
    go_enter Tryz.func36, Tryz.ntmps36
    go_wp2_with (first
      | (at_range; refine wpList_range_own _ rfl _ 65 rfl 9 79 law9 Tryz.underlying65 _ b n _ rfl hown ?_; intro w0 hrg0 hg0 hs0)
      | go_in)
    go_frame
    go_loopw [3] (fun v wr => ∃ (left : Lit → Bool) (cnt : Nat), v = .int .i64 (doneSum (fun F => F.a.bytes.length) left fs : Nat) ∧ Hid (wr.ranges Tryz.prog 9 Rp b w.heap.size n (Dfs fs) left cnt ∧ Below w.heap.size w wr)) (fun _ wr => wr.rangeLeft b w.heap.size)
    case atStart => exact ⟨_, _, by rw [doneSum_start _ HR.out]; rfl, hrg0, Below.of_grown_none hg0⟩
    case round =>
      obtain ⟨left, cnt, rfl, HG⟩ := hrel
      go_wp2_with (first
        | (at_next; refine wpList_next_ranges _ rfl _ rfl 9 law9 Rp encStr fptr inv9 invP b w.heap.size n _ left cnt rfl HG.out.1 ?_ ?_)
        | go_in)
      · intro _ hl0
        rw [doneSum_end _ fs hl0]
        go_wp2
        go_ret
        exact ⟨rfl, HG.out.2⟩
      · intro x c kl y1 y2 w1 cnt1 hkey hlk hv hat hrg1 hlt hg1 hs1 hen
        obtain ⟨F, hF, rfl, rfl⟩ := comes_up Tryz.underlying9 hkey hv hat
        have HB1 : Hid (Below w.heap.size w w1) := Below.grown_new HG.out.2 hg1 (Nat.le_refl _)
        have HS : Hid (doneSum (fun F => F.a.bytes.length) (fun z => left z && !z.sameKey (.string F.nm)) fs = doneSum (fun F => F.a.bytes.length) left fs + F.a.bytes.length) := doneSum_step _ left F hlk HR.out hF
        have HC := hide (HN.out F hF w1 HB1.out)
        obtain ⟨a, c, hform⟩ := HV.out F hF
        rw [hform] at HC
        have hb1 := HB.out left
        have hb2 := HL.out F hF
        have HRG := hide (And.intro hrg1 hlt)
        have HLE := hide (HG.out.1.left_eq)
        clear hkey hv hat hg1 hs1 hrg1 hlt hlk
        simp only [fptr] at hen
        generalize F.blk = B at *
        generalize F.a.bytes.length = L at *
        generalize hsum : doneSum (fun F => F.a.bytes.length) left fs = T at *
        clear hsum
        go_wp2_with (first
          | (go_at_call 63; refine HC.out.mono ?_; rintro e w' ⟨rfl, rfl⟩)
          | go_in)
        go_roundw
        case rel => exact ⟨_, cnt1, by rw [HS.out]; go_num, HRG.out.1, HB1.out⟩
        case measure => rw [HRG.out.1.left_eq, HLE.out]; exact HRG.out.2
end Go.Proofs.YtoineobjmllicaaGreatDoor
