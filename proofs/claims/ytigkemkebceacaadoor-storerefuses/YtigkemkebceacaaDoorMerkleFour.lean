/- Several texts in one: MerkleOfMem, MerkleOfRound, MerkleOf. -/
import Derived.Test.YtigkemkebceacaaDoorMerkleOne
import Derived.Test.YtigkemkebceacaaDoorChunkAll
import Derived.Test.YtigkemkebceacaaDoorWireMid
/- Contracts: the chunks gone over, as short texts; what a file's manifest keeps in memory while it grows. -/
namespace Go.Proofs.YtigkemkebceacaaDoor
open Go.RowKit Go.Shelf Go.Wire Go.Mk Go.Chunk
attribute [local go_sem] Oper.semAt_some
/-- A text that is no longer than a file. -/
abbrev Short : Type := { x : ByteArray // x.size ≤ 8192 }
def strs (p : List Short) : List ByteArray := p.map fun x => x.1
set_option maxHeartbeats 2000000 in
theorem all_ins (s : ByteArray) (bx m : Nat) (w0 : World) (hs : s.size ≤ 8192) (hbx : w0.cell? ⟨bx, 0, none⟩ = some (.string s)) :
    SeqStopsK Fence.wide m Tryd.prog 55 #[.pointer (some ⟨bx, 0, none⟩)] (fun x : Short => #[.string x.1]) (fun _ _ => True) (fun xs => xs.map (·.1) = texts s) (fun pre => pre.map (·.1) <+: texts s) (texts s).length w0 := by
  intro l J Jx W hW hJ hJx hY h0
  refine callsIn_of_wp Tryd.func55 rfl trivial ?_ rfl
  simp only [Tryd.ntmps55, List.size_toArray, List.length_cons, List.length_nil, Nat.reduceAdd, Nat.reduceSub, Array.replicate_succ, Array.replicate_zero, List.push_toArray, List.append_toArray, List.nil_append, List.cons_append]
  have hlt : bx < w0.heap.size := by
    rcases Nat.lt_or_ge bx w0.heap.size with h | h
    · exact h
    · simp [World.cell?, Array.getElem?_eq_none h] at hbx
  have hb1 : W.cell? ⟨bx, 0, none⟩ = some (.string s) := (hW.cell (p := ⟨bx, 0, none⟩) hlt).trans hbx
  have HY := hide hY
  have H0 := hide h0
  clear hY h0 hbx
  gi_wp2_with fail
  gi_loopw [3] (fun vs wr => ∃ (r : ByteArray) (pre : List Short), vs = .string r ∧ r.size ≤ s.size ∧ Hid (pre.map (·.1) ++ texts r = texts s ∧ J pre wr)) (fun vs _ => match vs with | .string r => r.size | _ => 0)
  case atStart => exact ⟨s, [], rfl, Nat.le_refl _, rfl, H0.out⟩
  case round =>
    obtain ⟨r, pre, rfl, hr, HP⟩ := hrel
    by_cases h0 : r.size = 0
    · have he := empty_yes r h0
      gi_wp2_with fail
      go_end0
      refine ⟨⟨_, rfl⟩, .inl ⟨pre, ?_, HP.out.2⟩⟩
      have := HP.out.1
      rwa [texts_nil r h0, List.append_nil] at this
    · have he := empty_no r h0
      have HCUT := hide (cut_any r wr (by unfold maxLen; omega))
      have HST := hide (texts_step r h0)
      have hc1 := cut_bytes r
      have hc2 := cut_some r h0
      have hc3 : (cut r.data.toList : Int) ≤ r.size := by omega
      generalize cut r.data.toList = n at *
      have hpl : pre.length < (texts s).length := by
        have := congrArg List.length HP.out.1
        rw [HST.out, List.length_append, List.length_cons, List.length_map] at this
        omega
      obtain ⟨fn, tmps, assign, body, hy, hR⟩ := HY.out pre ⟨r.extract 0 n, by simp; omega⟩ wr HP.out.2 hpl
      have hn0 : (0 : Int) ≤ n := by omega
      gi_wp2_with (refine ⟨trivial, fun h => (by cases h), ?_⟩; gi_at_call 56; refine (callsIn_wide.2 HCUT.out).mono ?_; rintro e w1 ⟨rfl, hw⟩; subst hw)
      refine ⟨fun h => (by cases h), hR.mono ?_⟩
      rintro e W3 (⟨rfl, hJ3, hk3⟩ | ⟨rfl, hJx3⟩)
      · have HG := hide hJ3
        clear hJ3 hk3 hR hy
        gi_wp2_with fail
        go_roundw
        case rel =>
          refine ⟨r.extract n r.size, pre ++ [⟨r.extract 0 n, by simp; omega⟩], rfl, by simp; omega, ?_, HG.out⟩
          rw [List.map_append, List.append_assoc, List.map_singleton, List.singleton_append, ← HST.out, HP.out.1]
        case measure => simp; omega
      · clear hR hy
        gi_wp2_with fail
        refine bodyPost_ret (results_none rfl _ _ _) rfl ?_
        refine ⟨⟨_, rfl⟩, .inr ⟨pre ++ [⟨r.extract 0 n, by simp; omega⟩], ?_, hJx3⟩⟩
        rw [← HP.out.1, HST.out, List.map_append]
        exact ⟨texts (r.extract n r.size), by rw [List.append_assoc]; rfl⟩
theorem infoMan : (Tryd.prog.info? 24).map (·.size) = some 2 := by kernel_rfl
/-- What Of keeps between two rounds: a box that holds a slice of its own, with the digests of what has come; the block of the answer. -/
structure Ms (w : World) (n : Int) (xs : List ByteArray) (W : World) : Prop where
  res : W.heap[w.heap.size]? = some (.cells #[.int .i64 0, .slice none 0 0] 24 (0, 0))
  box : ∃ v, W.heap[w.heap.size + 1]? = some (.cells #[.int .i64 n, v] 24 (0, 0)) ∧ W.ownsRow w.heap.size 9 1 v xs.length (xs.map fun x => Value.string (digest x))
  below : Below w.heap.size w W
theorem row_kept {W W' : World} {row : Option Nat} {B : Nat} {cs : Array Value} {t : TypeId} (h : W.heap[B]? = some (.cells cs t (0, 0))) (hg : W.grownBy W' row) (hne : some B ≠ row) : W'.heap[B]? = some (.cells cs t (0, 0)) :=
  (hg.block B (Array.getElem?_eq_some_iff.1 h).1 hne).trans h
theorem row_other {W : World} {row : Option Nat} {B : Nat} {cs : Array Value} {t : TypeId} (h : W.heap[B]? = some (.cells cs t (0, 0))) (hr : ∀ r, row = some r → ∃ o : Obj, W.heap[r]? = some o ∧ o.isCells = false) : some B ≠ row := fun e => by
  obtain ⟨o, ho, hc⟩ := hr B e.symm
  rw [h] at ho; cases ho; cases hc
theorem own_other {W W' : World} {row : Option Nat} {base : Nat} {e : TypeId} {v : Value} {k : Nat} {xs : List Value} (h : W.ownsRow base e 1 v k xs) (hg : W.grownBy W' row) (hr : ∀ r, row = some r → ∃ o : Obj, W.heap[r]? = some o ∧ o.isCells = false) : W'.ownsRow base e 1 v k xs := by
  refine h.kept hg ?_
  rcases h.2 with ⟨rfl, _⟩ | ⟨g, cap, cur, rfl, _, hgb, _⟩
  · exact .inl rfl
  · refine .inr fun e' => ?_
    obtain ⟨o, ho, hc⟩ := hr g (by simpa [Value.ownBlock] using e'.symm)
    rw [hgb] at ho; cases ho; cases hc
theorem own_below {W W' : World} {base : Nat} {e : TypeId} {v : Value} {k : Nat} {xs : List Value} (h : W.ownsRow base e 1 v k xs) (hb : Below W.heap.size W W') : W'.ownsRow base e 1 v k xs := own_other h (grown_of hb) (fun _ e => by cases e)
theorem Ms.turned {w : World} {n : Int} {b : Nat} {xs : List ByteArray} {W W' : World} {row : Option Nat} (h : Ms w n xs W) (hg : W.grownBy W' row) (hr : ∀ r, row = some r → b ≤ r ∧ ∃ o : Obj, W.heap[r]? = some o ∧ o.isCells = false) (hb : w.heap.size ≤ b) : Ms w n xs W' := by
  obtain ⟨v, hv, ho⟩ := h.box
  exact ⟨row_kept h.res hg (row_other h.res fun r e => (hr r e).2), ⟨v, row_kept hv hg (row_other hv fun r e => (hr r e).2), own_other ho hg fun r e => (hr r e).2⟩, h.below.grown hg h.below.size fun k e => Nat.le_trans hb (hr k e).1⟩
theorem grown_set (w : World) (b i : Nat) (v : Value) : w.grownBy (w.setCell ⟨b, i, none⟩ v) (some b) :=
  ⟨rfl, rfl, rfl, Nat.le_of_eq (by simp), fun k _ hne => heap_setCell_other _ _ _ _ (fun e => hne (by rw [e]))⟩
theorem row_not {W : World} {B : Nat} {cs : Array Value} {t e : TypeId} (h : W.heap[B]? = some (.cells cs t (0, 0))) (hte : t ≠ e) {base k : Nat} {v : Value} {xs : List Value} (hr : W.ownsRow base e 1 v k xs) : some B ≠ v.ownBlock := by
  rcases hr.2 with ⟨rfl, _⟩ | ⟨g, cap, cur, rfl, _, hgb, _⟩
  · simp [Value.ownBlock]
  · intro e'
    obtain rfl : B = g := by simpa [Value.ownBlock] using e'
    rw [h] at hgb; cases hgb; exact hte rfl
theorem own_base {W : World} {base e : Nat} {v : Value} {k j : Nat} {xs : List Value} (h : W.ownsRow base e 1 v k xs) (ej : v.ownBlock = some j) : base ≤ j := by
  rcases h.2 with ⟨rfl, _⟩ | ⟨g, cap, cur, rfl, h1, _⟩
  · simp [Value.ownBlock] at ej
  · obtain rfl : g = j := by simpa [Value.ownBlock] using ej
    exact h1
theorem Ms.appended {w : World} {n : Int} {xs : List ByteArray} {x : ByteArray} {W w2 w3 : World} {v v' : Value} {tmp : Obj} (h : Ms w n xs W) (hv : W.heap[w.heap.size + 1]? = some (.cells #[.int .i64 n, v] 24 (0, 0))) (hrow : W.ownsRow w.heap.size 9 1 v xs.length (xs.map fun x => Value.string (digest x)))
    (k2 : Below W.heap.size W w2) (hown : w3.ownsRow w.heap.size 9 1 v' (xs.length + 1) ((xs.map fun x => Value.string (digest x)) ++ [Value.string (digest x)])) (hg : (w2.alloc tmp).grownBy w3 v.ownBlock) :
    w3.heap[w.heap.size + 1]? = some (.cells #[.int .i64 n, v] 24 (0, 0)) ∧ Ms w n (xs ++ [x]) (w3.setCell ⟨w.heap.size + 1, 1, none⟩ v') ∧ KeepsOthers W (w3.setCell ⟨w.heap.size + 1, 1, none⟩ v') := by
  have hrow2 := own_below hrow k2
  have hv2 := row_kept (row_kept hv (grown_of k2) (by simp)) (World.grownBy_alloc w2 tmp none) (by simp)
  have hr2 := row_kept (row_kept h.res (grown_of k2) (by simp)) (World.grownBy_alloc w2 tmp none) (by simp)
  have hv3 := row_kept hv2 hg (row_not hv2 (by decide) (hrow2.alloc tmp))
  have hr3 := row_kept hr2 hg (row_not hr2 (by decide) (hrow2.alloc tmp))
  refine ⟨hv3, ⟨row_kept hr3 (grown_set _ _ _ _) (by simp), ⟨v', ?_, ?_⟩, ?_⟩, ?_⟩
  · rw [heap_setCell_same _ _ _ _ _ _ hv3]; rfl
  · rw [List.length_append, List.map_append]
    exact hown.kept (grown_set _ _ _ _) (.inr (row_not hv3 (by decide) hown).symm)
  · have b2 := h.below.trans (k2.mono h.below.size)
    exact ((b2.alloc b2.size tmp).grown hg (b2.alloc b2.size tmp).size fun j ej => own_base hrow ej).setCell (p := ⟨w.heap.size + 1, 1, none⟩) (by simp) v'
  · refine ((show KeepsOthers W w2 from ⟨k2.size, fun k _ hk _ => (k2.block k (Array.getElem?_eq_some_iff.1 hk).1).trans hk⟩).trans (KeepsOthers.alloc w2 tmp)).trans ((KeepsOthers.of_grownBy hg fun j o ej hj => ?_).trans (KeepsOthers.setCell _ _ _))
    rcases (hrow2.alloc tmp).2 with ⟨rfl, _⟩ | ⟨g, cap, cur, rfl, _, hgb, _⟩
    · simp [Value.ownBlock] at ej
    · obtain rfl : g = j := by simpa [Value.ownBlock] using ej
      rw [hgb] at hj; cases hj; rfl
end Go.Proofs.YtigkemkebceacaaDoor
/- One round of Of: a region that draws its order and makes memory, inside a round; state by state (laid by tools/genof.py). -/
namespace Go.QTail
variable {F : Fence} {n : Nat} {P : Program} {ops : Array Oper} {Q : Exit → Act → World → Prop}
theorem anyIn_step {f : Nat} {listed : Array Bool} {a : Act} {w : World} (rs : List Nat) (hr : Region.ready .any ops listed = rs) (hne : rs ≠ [])
    (h : ∀ i ∈ rs, wpOpIn F n P ops Q i (wpAnyIn F n P .any ops Q f (listed.setIfInBounds i true)) a w) : wpAnyIn F n P .any ops Q (f + 1) listed a w :=
  ⟨fun h0 => absurd (hr.symm.trans h0) hne, fun i hi => h i (by rw [← hr]; exact hi)⟩
/-- What follows a single operation. -/
def Qk (K : Act → World → Prop) (Q : Exit → Act → World → Prop) : Exit → Act → World → Prop
  | .normal, a, w => K a w
  | e, a, w => Q e a w
theorem opIn_of_list {i : Nat} {o : Oper} {K : Act → World → Prop} {a : Act} {w : World} (hi : ops[i]? = some o) (h : wpListIn F n P ops (Qk K Q) [o] a w) : wpOpIn F n P ops Q i K a w := by
  unfold wpOpIn
  simp only [hi]
  unfold wpListIn at h
  split
  · rename_i hw
    rw [if_pos hw] at h
    refine ⟨h.1, ?_⟩
    have h2 := h.2
    generalize (o.semAt F.round a.eval).run P w = r at h2 ⊢
    cases r with
    | ok x w' =>
      cases x <;> first | exact h2 | exact ⟨h2.1, CallsIn.mono h2.2 (fun e w'' he => by cases e <;> exact he)⟩ | exact ⟨h2.1, RowsIn.mono h2.2 (fun _ _ he => he)⟩ | exact ⟨h2.1, RoundIn.mono h2.2 (fun e w'' he => by cases e <;> exact he)⟩
    | halt x w' => cases x <;> exact h2
  · rename_i hw
    rw [if_neg hw] at h
    exact h
end Go.QTail
namespace Go.Proofs.YtigkemkebceacaaDoor
open Go.RowKit Go.Shelf Go.Wire Go.Mk Go.Chunk Go.QTail
attribute [local go_sem] Oper.semAt_some
set_option maxHeartbeats 4000000 in
set_option maxRecDepth 100000 in
theorem of_round (s : ByteArray) (w W : World) (l n : Nat) (pre : List Short) (x : Short) (va : Option Addr) (vc : Nat) (hpl : (strs pre).length = pre.length) (hlen : pre.length ≤ 8192) (ops : Array Oper) (Q : Exit → Act → World → Prop) (t0 : TypeId) (p0 : String) (f0 : Array Edge) (t1 : TypeId) (p1 : String) (f1 : Array Edge) (t2 : TypeId) (p2 : String) (f2 : Array Edge) (t3 : TypeId) (p3 : String) (f3 : Array Edge) (t4 : TypeId) (p4 : String) (f4 : Array Edge) (t5 : TypeId) (p5 : String) (f5 : Array Edge) (t6 : TypeId) (p6 : String) (f6 : Array Edge) (t7 : TypeId) (p7 : String) (f7 : Array Edge)
    (h0 : ops[0]? = some ⟨some 16, .fieldAddr 24 (.tmp 4) 1, t0, p0, f0, none⟩)
    (h1 : ops[1]? = some ⟨some 17, .load 22 (.tmp 16), t1, p1, f1, none⟩)
    (h2 : ops[2]? = some ⟨some 18, .move (.tmp 5), t2, p2, f2, none⟩)
    (h3 : ops[3]? = some ⟨some 19, .call { callee := .value (.func 30), args := #[.tmp 18], argTypes := #[9] }, t3, p3, f3, none⟩)
    (h4 : ops[4]? = some ⟨some 20, .buildSlice 22 1 #[(0, .tmp 19)], t4, p4, f4, none⟩)
    (h5 : ops[5]? = some ⟨some 21, .call { callee := .builtin .append, args := #[.tmp 17, .tmp 20], argTypes := #[22, 22] }, t5, p5, f5, none⟩)
    (h6 : ops[6]? = some ⟨some 22, .fieldAddr 24 (.tmp 4) 1, t6, p6, f6, none⟩)
    (h7 : ops[7]? = some ⟨none, .store 22 (.tmp 22) (.tmp 21), t7, p7, f7, none⟩)
    (rS0123456 : Region.ready .any ops #[true, true, true, true, true, true, true, false] = [7])
    (rS012345 : Region.ready .any ops #[true, true, true, true, true, true, false, false] = [6])
    (rS01234 : Region.ready .any ops #[true, true, true, true, true, false, false, false] = [5])
    (rS0123 : Region.ready .any ops #[true, true, true, true, false, false, false, false] = [4])
    (rS0234 : Region.ready .any ops #[true, false, true, true, true, false, false, false] = [1])
    (rS012 : Region.ready .any ops #[true, true, true, false, false, false, false, false] = [3])
    (rS023 : Region.ready .any ops #[true, false, true, true, false, false, false, false] = [1, 4])
    (rS234 : Region.ready .any ops #[false, false, true, true, true, false, false, false] = [0])
    (rS01 : Region.ready .any ops #[true, true, false, false, false, false, false, false] = [2])
    (rS02 : Region.ready .any ops #[true, false, true, false, false, false, false, false] = [1, 3])
    (rS23 : Region.ready .any ops #[false, false, true, true, false, false, false, false] = [0, 4])
    (rS0 : Region.ready .any ops #[true, false, false, false, false, false, false, false] = [1, 2])
    (rS2 : Region.ready .any ops #[false, false, true, false, false, false, false, false] = [0, 3])
    (rS : Region.ready .any ops #[false, false, false, false, false, false, false, false] = [0, 2])
    (rAll : Region.ready .any ops #[true, true, true, true, true, true, true, true] = [])
    (HD : Hid (∀ (U : World), Below W.heap.size W U → Calls Tryd.prog 30 #[.string x.1] U fun e w' => e = .returned (.string (digest x.1)) ∧ Below W.heap.size W w'))
    (HM : Hid (Ms w s.size (strs pre) W)) (HV : Hid (W.heap[w.heap.size + 1]? = some (.cells #[.int .i64 s.size, .slice va pre.length vc] 24 (0, 0)))) (HR0 : Hid (W.ownsRow w.heap.size 9 1 (.slice va pre.length vc) (strs pre).length ((strs pre).map fun x => Value.string (digest x))))
    (q0 : W.cell? ⟨w.heap.size + 1, 1, none⟩ = some (.slice va pre.length vc))
    (HQ : Hid (∀ (a : Act) (w3 : World) (g cap : Nat), Ms w s.size (strs pre ++ [x.1]) (w3.setCell ⟨w.heap.size + 1, 1, none⟩ (.slice (some ⟨g, 0, none⟩) (pre.length + 1) cap)) ∧ KeepsOthers W (w3.setCell ⟨w.heap.size + 1, 1, none⟩ (.slice (some ⟨g, 0, none⟩) (pre.length + 1) cap)) → Q .normal a (w3.setCell ⟨w.heap.size + 1, 1, none⟩ (.slice (some ⟨g, 0, none⟩) (pre.length + 1) cap)))) :
    wpAnyIn (Fence.wide.inRound l) n Tryd.prog .any ops Q 8 #[false, false, false, false, false, false, false, false] { tmps := #[.string s, undef, .pointer (some ⟨w.heap.size, 0, none⟩), .int .i64 0, .pointer (some ⟨w.heap.size + 1, 0, none⟩), .string x.1, .string s, .int .i64 s.size, .bool (decide (8192 < (s.size : Int))), undef, .string s, .int .i64 s.size, .agg #[.int .i64 s.size, .slice none 0 0], .string s, .func (.func 55) #[] #[.pointer (some ⟨w.heap.size + 1 + 1, 0, none⟩)], .string x.1, undef, undef, undef, undef, undef, undef, undef, undef], defers := [] } W.drew := by
  obtain ⟨i9, hi9, hz0, hz1, hz2⟩ := info_parts ciInfo9
  have hlt : w.heap.size + 1 < W.heap.size := (Array.getElem?_eq_some_iff.1 HV.out).1
  have HR : Hid (W.ownsRow w.heap.size 9 1 (.slice va pre.length vc) pre.length ((strs pre).map fun x => Value.string (digest x))) := by have := HR0.out; rwa [hpl] at this
  have HC : Hid (∀ U, Below W.heap.size W U → U.cell? ⟨w.heap.size + 1, 1, none⟩ = some (.slice va pre.length vc)) := fun U h => (h.cell (p := ⟨w.heap.size + 1, 1, none⟩) hlt).trans q0
  have hcall := Tryd.call30
  have S0123456 : ∀ (U w3 : World) (g cap : Nat), w3.cell? ⟨w.heap.size + 1, 1, none⟩ = some (.slice va pre.length vc) → w3.frozen? ⟨w.heap.size + 1, 1, none⟩ = false → Hid (Ms w s.size (strs pre ++ [x.1]) (w3.setCell ⟨w.heap.size + 1, 1, none⟩ (.slice (some ⟨g, 0, none⟩) (pre.length + 1) cap)) ∧ KeepsOthers W (w3.setCell ⟨w.heap.size + 1, 1, none⟩ (.slice (some ⟨g, 0, none⟩) (pre.length + 1) cap))) → wpAnyIn (Fence.wide.inRound l) n Tryd.prog .any ops Q 1 #[true, true, true, true, true, true, true, false] { tmps := #[.string s, undef, .pointer (some ⟨w.heap.size, 0, none⟩), .int .i64 0, .pointer (some ⟨w.heap.size + 1, 0, none⟩), .string x.1, .string s, .int .i64 s.size, .bool (decide (8192 < (s.size : Int))), undef, .string s, .int .i64 s.size, .agg #[.int .i64 s.size, .slice none 0 0], .string s, .func (.func 55) #[] #[.pointer (some ⟨w.heap.size + 1 + 1, 0, none⟩)], .string x.1, .pointer (some ⟨w.heap.size + 1, 1, none⟩), .slice va pre.length vc, .string x.1, .string (digest x.1), .slice (some ⟨U.heap.size, 0, none⟩) 1 1, .slice (some ⟨g, 0, none⟩) (pre.length + 1) cap, .pointer (some ⟨w.heap.size + 1, 1, none⟩), undef], defers := [] } w3 := by
    intro U w3 g cap t0 g0 HB
    refine anyIn_step [7] rS0123456 (by simp) ?_
    intro i hi
    obtain rfl : i = 7 := by simpa using hi
    · refine opIn_of_list h7 ?_
      gi_wp2_with fail
      exact ⟨rAll, HQ.out _ w3 g cap HB.out⟩
  have S012345 : ∀ (U w3 : World) (g cap : Nat), w3.cell? ⟨w.heap.size + 1, 1, none⟩ = some (.slice va pre.length vc) → w3.frozen? ⟨w.heap.size + 1, 1, none⟩ = false → Hid (Ms w s.size (strs pre ++ [x.1]) (w3.setCell ⟨w.heap.size + 1, 1, none⟩ (.slice (some ⟨g, 0, none⟩) (pre.length + 1) cap)) ∧ KeepsOthers W (w3.setCell ⟨w.heap.size + 1, 1, none⟩ (.slice (some ⟨g, 0, none⟩) (pre.length + 1) cap))) → wpAnyIn (Fence.wide.inRound l) n Tryd.prog .any ops Q 2 #[true, true, true, true, true, true, false, false] { tmps := #[.string s, undef, .pointer (some ⟨w.heap.size, 0, none⟩), .int .i64 0, .pointer (some ⟨w.heap.size + 1, 0, none⟩), .string x.1, .string s, .int .i64 s.size, .bool (decide (8192 < (s.size : Int))), undef, .string s, .int .i64 s.size, .agg #[.int .i64 s.size, .slice none 0 0], .string s, .func (.func 55) #[] #[.pointer (some ⟨w.heap.size + 1 + 1, 0, none⟩)], .string x.1, .pointer (some ⟨w.heap.size + 1, 1, none⟩), .slice va pre.length vc, .string x.1, .string (digest x.1), .slice (some ⟨U.heap.size, 0, none⟩) 1 1, .slice (some ⟨g, 0, none⟩) (pre.length + 1) cap, undef, undef], defers := [] } w3 := by
    intro U w3 g cap t0 g0 HB
    refine anyIn_step [6] rS012345 (by simp) ?_
    intro i hi
    obtain rfl : i = 6 := by simpa using hi
    · refine opIn_of_list h6 ?_
      gi_wp2_with fail
      exact S0123456 U w3 g cap t0 g0 HB
  have S01234 : ∀ (U : World), Hid (Below W.heap.size W U) → wpAnyIn (Fence.wide.inRound l) n Tryd.prog .any ops Q 3 #[true, true, true, true, true, false, false, false] { tmps := #[.string s, undef, .pointer (some ⟨w.heap.size, 0, none⟩), .int .i64 0, .pointer (some ⟨w.heap.size + 1, 0, none⟩), .string x.1, .string s, .int .i64 s.size, .bool (decide (8192 < (s.size : Int))), undef, .string s, .int .i64 s.size, .agg #[.int .i64 s.size, .slice none 0 0], .string s, .func (.func 55) #[] #[.pointer (some ⟨w.heap.size + 1 + 1, 0, none⟩)], .string x.1, .pointer (some ⟨w.heap.size + 1, 1, none⟩), .slice va pre.length vc, .string x.1, .string (digest x.1), .slice (some ⟨U.heap.size, 0, none⟩) 1 1, undef, undef, undef], defers := [] } (U.alloc (.cells #[.string (digest x.1)] 9)) := by
    intro U K2
    refine anyIn_step [5] rS01234 (by simp) ?_
    intro i hi
    obtain rfl : i = 5 := by simpa using hi
    · refine opIn_of_list h5 ?_
      gi_at_builtin
      refine wpListIn_append_own _ rfl _ _ 22 rfl w.heap.size 9 i9 (.string ⟨#[]⟩) 1 16 ciUnder24 hi9 hz0 hz1 hz2 rfl (by decide) _ _ _ rfl ((own_below HR.out K2.out).alloc _) ⟨U.heap.size, 0, none⟩ 1 1 [.string (digest x.1)] rfl rfl (cell_one_new _ _ _) (by intro u hu; simp at hu; subst hu; rfl) (by unfold maxLen; omega) (by omega) (by have h1 := HM.out.below.size; have h2 := K2.out.size; simp; omega) ?_
      intro v' w3 hown hgrow _
      obtain ⟨g, cap, rfl⟩ := ownsRow_succ hown
      obtain ⟨b1, b2, b3⟩ := Ms.appended HM.out HV.out HR0.out K2.out (by rw [hpl]; exact hown) hgrow
      have t0 : w3.cell? ⟨w.heap.size + 1, 1, none⟩ = some (.slice va pre.length vc) := by rw [cell_of_row _ _ _ _ _ _ b1]; rfl
      exact S012345 U w3 g cap t0 (frozen_of_row _ _ 1 _ _ b1) ⟨b2, b3⟩
  have S0123 : ∀ (U : World), Hid (Below W.heap.size W U) → wpAnyIn (Fence.wide.inRound l) n Tryd.prog .any ops Q 4 #[true, true, true, true, false, false, false, false] { tmps := #[.string s, undef, .pointer (some ⟨w.heap.size, 0, none⟩), .int .i64 0, .pointer (some ⟨w.heap.size + 1, 0, none⟩), .string x.1, .string s, .int .i64 s.size, .bool (decide (8192 < (s.size : Int))), undef, .string s, .int .i64 s.size, .agg #[.int .i64 s.size, .slice none 0 0], .string s, .func (.func 55) #[] #[.pointer (some ⟨w.heap.size + 1 + 1, 0, none⟩)], .string x.1, .pointer (some ⟨w.heap.size + 1, 1, none⟩), .slice va pre.length vc, .string x.1, .string (digest x.1), undef, undef, undef, undef], defers := [] } U := by
    intro U K2
    refine anyIn_step [4] rS0123 (by simp) ?_
    intro i hi
    obtain rfl : i = 4 := by simpa using hi
    · refine opIn_of_list h4 ?_
      gi_wp2_with fail
      exact S01234 U K2
  have S0234 : ∀ (U : World), Hid (Below W.heap.size W U) → wpAnyIn (Fence.wide.inRound l) n Tryd.prog .any ops Q 4 #[true, false, true, true, true, false, false, false] { tmps := #[.string s, undef, .pointer (some ⟨w.heap.size, 0, none⟩), .int .i64 0, .pointer (some ⟨w.heap.size + 1, 0, none⟩), .string x.1, .string s, .int .i64 s.size, .bool (decide (8192 < (s.size : Int))), undef, .string s, .int .i64 s.size, .agg #[.int .i64 s.size, .slice none 0 0], .string s, .func (.func 55) #[] #[.pointer (some ⟨w.heap.size + 1 + 1, 0, none⟩)], .string x.1, .pointer (some ⟨w.heap.size + 1, 1, none⟩), undef, .string x.1, .string (digest x.1), .slice (some ⟨U.heap.size, 0, none⟩) 1 1, undef, undef, undef], defers := [] } (U.alloc (.cells #[.string (digest x.1)] 9)) := by
    intro U K2
    refine anyIn_step [1] rS0234 (by simp) ?_
    intro i hi
    obtain rfl : i = 1 := by simpa using hi
    · refine opIn_of_list h1 ?_
      have e0 := HC.out U K2.out
      have e1 : (U.alloc (.cells #[.string (digest x.1)] 9)).cell? ⟨w.heap.size + 1, 1, none⟩ = some (.slice va pre.length vc) := HC.out _ (K2.out.alloc K2.out.size _)
      gi_wp2_with fail
      exact S01234 U K2
  have S012 : ∀ (U : World), Hid (Below W.heap.size W U) → wpAnyIn (Fence.wide.inRound l) n Tryd.prog .any ops Q 5 #[true, true, true, false, false, false, false, false] { tmps := #[.string s, undef, .pointer (some ⟨w.heap.size, 0, none⟩), .int .i64 0, .pointer (some ⟨w.heap.size + 1, 0, none⟩), .string x.1, .string s, .int .i64 s.size, .bool (decide (8192 < (s.size : Int))), undef, .string s, .int .i64 s.size, .agg #[.int .i64 s.size, .slice none 0 0], .string s, .func (.func 55) #[] #[.pointer (some ⟨w.heap.size + 1 + 1, 0, none⟩)], .string x.1, .pointer (some ⟨w.heap.size + 1, 1, none⟩), .slice va pre.length vc, .string x.1, undef, undef, undef, undef, undef], defers := [] } U := by
    intro U K2
    refine anyIn_step [3] rS012 (by simp) ?_
    intro i hi
    obtain rfl : i = 3 := by simpa using hi
    · refine opIn_of_list h3 ?_
      gi_wp2_with (refine ⟨trivial, fun h => (by cases h), ?_⟩; gi_at_call 30; refine (CallsIn.inRound l (callsIn_wide.2 (HD.out _ K2.out))).mono ?_; rintro e w2 ⟨rfl, k2⟩)
      exact S0123 w2 k2
  have S023 : ∀ (U : World), Hid (Below W.heap.size W U) → wpAnyIn (Fence.wide.inRound l) n Tryd.prog .any ops Q 5 #[true, false, true, true, false, false, false, false] { tmps := #[.string s, undef, .pointer (some ⟨w.heap.size, 0, none⟩), .int .i64 0, .pointer (some ⟨w.heap.size + 1, 0, none⟩), .string x.1, .string s, .int .i64 s.size, .bool (decide (8192 < (s.size : Int))), undef, .string s, .int .i64 s.size, .agg #[.int .i64 s.size, .slice none 0 0], .string s, .func (.func 55) #[] #[.pointer (some ⟨w.heap.size + 1 + 1, 0, none⟩)], .string x.1, .pointer (some ⟨w.heap.size + 1, 1, none⟩), undef, .string x.1, .string (digest x.1), undef, undef, undef, undef], defers := [] } U := by
    intro U K2
    refine anyIn_step [1, 4] rS023 (by simp) ?_
    intro i hi
    simp only [List.mem_cons, List.mem_nil_iff, or_false] at hi
    rcases hi with rfl | rfl
    · refine opIn_of_list h1 ?_
      have e0 := HC.out U K2.out
      gi_wp2_with fail
      exact S0123 U K2
    · refine opIn_of_list h4 ?_
      gi_wp2_with fail
      exact S0234 U K2
  have S234 : ∀ (U : World), Hid (Below W.heap.size W U) → wpAnyIn (Fence.wide.inRound l) n Tryd.prog .any ops Q 5 #[false, false, true, true, true, false, false, false] { tmps := #[.string s, undef, .pointer (some ⟨w.heap.size, 0, none⟩), .int .i64 0, .pointer (some ⟨w.heap.size + 1, 0, none⟩), .string x.1, .string s, .int .i64 s.size, .bool (decide (8192 < (s.size : Int))), undef, .string s, .int .i64 s.size, .agg #[.int .i64 s.size, .slice none 0 0], .string s, .func (.func 55) #[] #[.pointer (some ⟨w.heap.size + 1 + 1, 0, none⟩)], .string x.1, undef, undef, .string x.1, .string (digest x.1), .slice (some ⟨U.heap.size, 0, none⟩) 1 1, undef, undef, undef], defers := [] } (U.alloc (.cells #[.string (digest x.1)] 9)) := by
    intro U K2
    refine anyIn_step [0] rS234 (by simp) ?_
    intro i hi
    obtain rfl : i = 0 := by simpa using hi
    · refine opIn_of_list h0 ?_
      gi_wp2_with fail
      exact S0234 U K2
  have S01 : ∀ (U : World), Hid (Below W.heap.size W U) → wpAnyIn (Fence.wide.inRound l) n Tryd.prog .any ops Q 6 #[true, true, false, false, false, false, false, false] { tmps := #[.string s, undef, .pointer (some ⟨w.heap.size, 0, none⟩), .int .i64 0, .pointer (some ⟨w.heap.size + 1, 0, none⟩), .string x.1, .string s, .int .i64 s.size, .bool (decide (8192 < (s.size : Int))), undef, .string s, .int .i64 s.size, .agg #[.int .i64 s.size, .slice none 0 0], .string s, .func (.func 55) #[] #[.pointer (some ⟨w.heap.size + 1 + 1, 0, none⟩)], .string x.1, .pointer (some ⟨w.heap.size + 1, 1, none⟩), .slice va pre.length vc, undef, undef, undef, undef, undef, undef], defers := [] } U := by
    intro U K2
    refine anyIn_step [2] rS01 (by simp) ?_
    intro i hi
    obtain rfl : i = 2 := by simpa using hi
    · refine opIn_of_list h2 ?_
      gi_wp2_with fail
      exact S012 U K2
  have S02 : ∀ (U : World), Hid (Below W.heap.size W U) → wpAnyIn (Fence.wide.inRound l) n Tryd.prog .any ops Q 6 #[true, false, true, false, false, false, false, false] { tmps := #[.string s, undef, .pointer (some ⟨w.heap.size, 0, none⟩), .int .i64 0, .pointer (some ⟨w.heap.size + 1, 0, none⟩), .string x.1, .string s, .int .i64 s.size, .bool (decide (8192 < (s.size : Int))), undef, .string s, .int .i64 s.size, .agg #[.int .i64 s.size, .slice none 0 0], .string s, .func (.func 55) #[] #[.pointer (some ⟨w.heap.size + 1 + 1, 0, none⟩)], .string x.1, .pointer (some ⟨w.heap.size + 1, 1, none⟩), undef, .string x.1, undef, undef, undef, undef, undef], defers := [] } U := by
    intro U K2
    refine anyIn_step [1, 3] rS02 (by simp) ?_
    intro i hi
    simp only [List.mem_cons, List.mem_nil_iff, or_false] at hi
    rcases hi with rfl | rfl
    · refine opIn_of_list h1 ?_
      have e0 := HC.out U K2.out
      gi_wp2_with fail
      exact S012 U K2
    · refine opIn_of_list h3 ?_
      gi_wp2_with (refine ⟨trivial, fun h => (by cases h), ?_⟩; gi_at_call 30; refine (CallsIn.inRound l (callsIn_wide.2 (HD.out _ K2.out))).mono ?_; rintro e w2 ⟨rfl, k2⟩)
      exact S023 w2 k2
  have S23 : ∀ (U : World), Hid (Below W.heap.size W U) → wpAnyIn (Fence.wide.inRound l) n Tryd.prog .any ops Q 6 #[false, false, true, true, false, false, false, false] { tmps := #[.string s, undef, .pointer (some ⟨w.heap.size, 0, none⟩), .int .i64 0, .pointer (some ⟨w.heap.size + 1, 0, none⟩), .string x.1, .string s, .int .i64 s.size, .bool (decide (8192 < (s.size : Int))), undef, .string s, .int .i64 s.size, .agg #[.int .i64 s.size, .slice none 0 0], .string s, .func (.func 55) #[] #[.pointer (some ⟨w.heap.size + 1 + 1, 0, none⟩)], .string x.1, undef, undef, .string x.1, .string (digest x.1), undef, undef, undef, undef], defers := [] } U := by
    intro U K2
    refine anyIn_step [0, 4] rS23 (by simp) ?_
    intro i hi
    simp only [List.mem_cons, List.mem_nil_iff, or_false] at hi
    rcases hi with rfl | rfl
    · refine opIn_of_list h0 ?_
      gi_wp2_with fail
      exact S023 U K2
    · refine opIn_of_list h4 ?_
      gi_wp2_with fail
      exact S234 U K2
  have S0 : ∀ (U : World), Hid (Below W.heap.size W U) → wpAnyIn (Fence.wide.inRound l) n Tryd.prog .any ops Q 7 #[true, false, false, false, false, false, false, false] { tmps := #[.string s, undef, .pointer (some ⟨w.heap.size, 0, none⟩), .int .i64 0, .pointer (some ⟨w.heap.size + 1, 0, none⟩), .string x.1, .string s, .int .i64 s.size, .bool (decide (8192 < (s.size : Int))), undef, .string s, .int .i64 s.size, .agg #[.int .i64 s.size, .slice none 0 0], .string s, .func (.func 55) #[] #[.pointer (some ⟨w.heap.size + 1 + 1, 0, none⟩)], .string x.1, .pointer (some ⟨w.heap.size + 1, 1, none⟩), undef, undef, undef, undef, undef, undef, undef], defers := [] } U := by
    intro U K2
    refine anyIn_step [1, 2] rS0 (by simp) ?_
    intro i hi
    simp only [List.mem_cons, List.mem_nil_iff, or_false] at hi
    rcases hi with rfl | rfl
    · refine opIn_of_list h1 ?_
      have e0 := HC.out U K2.out
      gi_wp2_with fail
      exact S01 U K2
    · refine opIn_of_list h2 ?_
      gi_wp2_with fail
      exact S02 U K2
  have S2 : ∀ (U : World), Hid (Below W.heap.size W U) → wpAnyIn (Fence.wide.inRound l) n Tryd.prog .any ops Q 7 #[false, false, true, false, false, false, false, false] { tmps := #[.string s, undef, .pointer (some ⟨w.heap.size, 0, none⟩), .int .i64 0, .pointer (some ⟨w.heap.size + 1, 0, none⟩), .string x.1, .string s, .int .i64 s.size, .bool (decide (8192 < (s.size : Int))), undef, .string s, .int .i64 s.size, .agg #[.int .i64 s.size, .slice none 0 0], .string s, .func (.func 55) #[] #[.pointer (some ⟨w.heap.size + 1 + 1, 0, none⟩)], .string x.1, undef, undef, .string x.1, undef, undef, undef, undef, undef], defers := [] } U := by
    intro U K2
    refine anyIn_step [0, 3] rS2 (by simp) ?_
    intro i hi
    simp only [List.mem_cons, List.mem_nil_iff, or_false] at hi
    rcases hi with rfl | rfl
    · refine opIn_of_list h0 ?_
      gi_wp2_with fail
      exact S02 U K2
    · refine opIn_of_list h3 ?_
      gi_wp2_with (refine ⟨trivial, fun h => (by cases h), ?_⟩; gi_at_call 30; refine (CallsIn.inRound l (callsIn_wide.2 (HD.out _ K2.out))).mono ?_; rintro e w2 ⟨rfl, k2⟩)
      exact S23 w2 k2
  have K2 : Hid (Below W.heap.size W W.drew) := ⟨rfl, rfl, rfl, Nat.le_refl _, fun _ _ => rfl⟩
  have S : ∀ (U : World), Hid (Below W.heap.size W U) → wpAnyIn (Fence.wide.inRound l) n Tryd.prog .any ops Q 8 #[false, false, false, false, false, false, false, false] { tmps := #[.string s, undef, .pointer (some ⟨w.heap.size, 0, none⟩), .int .i64 0, .pointer (some ⟨w.heap.size + 1, 0, none⟩), .string x.1, .string s, .int .i64 s.size, .bool (decide (8192 < (s.size : Int))), undef, .string s, .int .i64 s.size, .agg #[.int .i64 s.size, .slice none 0 0], .string s, .func (.func 55) #[] #[.pointer (some ⟨w.heap.size + 1 + 1, 0, none⟩)], .string x.1, undef, undef, undef, undef, undef, undef, undef, undef], defers := [] } U := by
    intro U K2
    refine anyIn_step [0, 2] rS (by simp) ?_
    intro i hi
    simp only [List.mem_cons, List.mem_nil_iff, or_false] at hi
    rcases hi with rfl | rfl
    · refine opIn_of_list h0 ?_
      gi_wp2_with fail
      exact S0 U K2
    · refine opIn_of_list h2 ?_
      gi_wp2_with fail
      exact S2 U K2
  exact S _ K2
end Go.Proofs.YtigkemkebceacaaDoor
/- Contract: a file's manifest. -/
namespace Go.Proofs.YtigkemkebceacaaDoor
open Go.RowKit Go.Shelf Go.Wire Go.Mk Go.Chunk
attribute [local go_sem] Oper.semAt_some
set_option maxHeartbeats 2000000 in
set_option maxRecDepth 100000 in
theorem of_any (s : ByteArray) (w : World) (hs : s.size ≤ 8192) (hst : Steps w) :
    Calls Tryd.prog 25 #[.string s] w fun e w' => ∃ v, e = .returned (.tuple #[.agg #[.int .i64 s.size, v], .int .i64 0]) ∧ w'.ownsRow w.heap.size 9 1 v (texts s).length ((texts s).map fun x => Value.string (digest x)) ∧ Below w.heap.size w w' := by
  obtain ⟨i9, hi9, hz0, hz1, hz2⟩ := info_parts ciInfo9
  have htl := texts_length s
  have hs' : (s.size : Int) ≤ 8192 := by omega
  refine (callsIn_wide (n := 9)).1 ?_
  refine callsIn_of_wp_marks Tryd.func25 rfl trivial ?_ rfl
  simp only [Tryd.ntmps25, List.size_toArray, List.length_cons, List.length_nil, Nat.reduceAdd, Nat.reduceSub, Array.replicate_succ, Array.replicate_zero, List.push_toArray, List.append_toArray, List.nil_append, List.cons_append]
  gi_wp2_with (first
    | (refine ⟨trivial, ?_⟩; gi_at_call 42; refine (callsIn_wide.2 (all_any s _)).mono ?_; rintro e w1 ⟨rfl, rfl⟩))
  have c3 := (Boxed.new ((w.alloc (.cells #[.int .i64 0, .slice none 0 0] 24)).alloc (.cells #[.int .i64 s.size, .slice none 0 0] 24)) 9 (.string s)).cell
  simp only [World.size_alloc] at c3
  have G0 : Ms w s.size [] (((w.alloc (.cells #[.int .i64 0, .slice none 0 0] 24)).alloc (.cells #[.int .i64 s.size, .slice none 0 0] 24)).alloc (.cells #[.string s] 9)) := by
    have r0 : (w.alloc (.cells #[.int .i64 0, .slice none 0 0] 24)).heap[w.heap.size]? = some (.cells #[.int .i64 0, .slice none 0 0] 24 (0, 0)) := heap_alloc_new _ _
    have r1 : ((w.alloc (.cells #[.int .i64 0, .slice none 0 0] 24)).alloc (.cells #[.int .i64 s.size, .slice none 0 0] 24)).heap[w.heap.size + 1]? = some (.cells #[.int .i64 s.size, .slice none 0 0] 24 (0, 0)) := by
      have := heap_alloc_new (w.alloc (.cells #[.int .i64 0, .slice none 0 0] 24)) (.cells #[.int .i64 s.size, .slice none 0 0] 24)
      rwa [World.size_alloc] at this
    exact ⟨row_kept (row_kept r0 (World.grownBy_alloc _ _ none) (by simp)) (World.grownBy_alloc _ _ none) (by simp), ⟨_, row_kept r1 (World.grownBy_alloc _ _ none) (by simp), World.ownsRow_nil _ _ _ _⟩, (((Below.refl _ w).alloc (Nat.le_refl _) _).alloc (by simp) _).alloc (by simp; omega) _⟩
  have HST := hide hst
  clear hst
  refine wpIn_rangeFunc_ownF rfl (by decide) (gf := 55) (lb := #[.pointer (some ⟨w.heap.size + 1 + 1, 0, none⟩)]) rfl trivial (enters_of Tryd.func55 (by kernel_rfl) rfl)
    (all_ins s (w.heap.size + 1 + 1) 8 _ hs c3) (fun _ _ => trivial) (fun _ _ _ _ _ _ _ _ => trivial) (Below.refl _ _) (fun _ => rfl)
    (fun (pre : List Short) W => Ms w s.size (strs pre) W)
    (fun c pre W => False)
    (fun p A B row hs hg hr => hs.turned hg hr (by simp; omega))
    (fun c s A B row hs hg hr => hs)
    G0
    (fun x => { tmps := #[.string s, undef, .pointer (some ⟨w.heap.size, 0, none⟩), .int .i64 0, .pointer (some ⟨w.heap.size + 1, 0, none⟩), .string x.1, .string s, .int .i64 s.size, .bool (decide (8192 < (s.size : Int))), undef, .string s, .int .i64 s.size, .agg #[.int .i64 s.size, .slice none 0 0], .string s, .func (.func 55) #[] #[.pointer (some ⟨w.heap.size + 1 + 1, 0, none⟩)], .string x.1, undef, undef, undef, undef, undef, undef, undef, undef], defers := [] }) ?assign ?body ?done ?stop
  case assign =>
    intro l x W K hK
    gi_wp2
    simpa using hK
  case body =>
    rintro l pre x W hM hlen
    obtain ⟨v, hv, hrow⟩ := hM.box
    have hpl : (strs pre).length = pre.length := List.length_map _
    have HR0 := hide hrow
    rw [hpl] at hrow
    have q0 : W.cell? ⟨w.heap.size + 1, 1, none⟩ = some v := by rw [cell_of_row _ _ _ _ _ _ hv]; rfl
    obtain ⟨va, vc, rfl⟩ := own_slice hrow
    have HD := hide (fun (U : World) (h : Below W.heap.size W U) => (digest_any x.1 U (by have := x.2; omega) ((HST.out.kept hM.below).kept h)).mono fun e w' (he : e = .returned (.string (digest x.1)) ∧ Below U.heap.size U w') => (And.intro he.1 (h.trans (he.2.mono h.size)) : e = .returned (.string (digest x.1)) ∧ Below W.heap.size W w'))
    have HM := hide hM
    have HV := hide hv
    clear hM hrow hv
    have hmix : Tryd.prog.follows .mixedOrders = true := by kernel_rfl
    gi_wp2_with fail
    refine wpIn_region_any hmix ?_
    refine of_round s w W l _ pre x va vc hpl (by omega) _ _ _ _ _ _ _ _ _ _ _ _ _ _ _ _ _ _ _ _ _ _ _ _ _ _ rfl rfl rfl rfl rfl rfl rfl rfl (by kernel_rfl) (by kernel_rfl) (by kernel_rfl) (by kernel_rfl) (by kernel_rfl) (by kernel_rfl) (by kernel_rfl) (by kernel_rfl) (by kernel_rfl) (by kernel_rfl) (by kernel_rfl) (by kernel_rfl) (by kernel_rfl) (by kernel_rfl) (by kernel_rfl) HD HM HV HR0 q0 ?_
    intro a w3 g cap hB
    refine ⟨hB.2, trivial, ?_⟩
    show Ms w s.size (strs (pre ++ [x])) _
    have e : strs (pre ++ [x]) = strs pre ++ [x.1] := by unfold strs; rw [List.map_append]; rfl
    rw [e]
    exact hB.1
  case done =>
    rintro D ys W hD hys (hM : Ms w s.size (strs ys) W) hK
    have hyl : strs ys = texts s := hys
    rw [hyl] at hM
    obtain ⟨v, hv, hrow⟩ := hM.box
    obtain ⟨va, vc, rfl⟩ := own_slice hrow
    have c0 : W.cell? ⟨w.heap.size + 1, 0, none⟩ = some (.int .i64 s.size) := by rw [cell_of_row _ _ _ _ _ _ hv]; rfl
    have c1 : W.cell? ⟨w.heap.size + 1, 1, none⟩ = some (.slice va (texts s).length vc) := by rw [cell_of_row _ _ _ _ _ _ hv]; rfl
    have d0 : W.cell? ⟨w.heap.size, 0, none⟩ = some (.int .i64 0) := by rw [cell_of_row _ _ _ _ _ _ hM.res]; rfl
    have f0 := frozen_of_row _ _ 0 _ _ hM.res
    have hs1 : (W.setCell ⟨w.heap.size, 0, none⟩ (.int .i64 s.size)).heap[w.heap.size]? = some (.cells #[.int .i64 s.size, .slice none 0 0] 24 (0, 0)) := by rw [heap_setCell_same _ _ _ _ _ _ hM.res]; rfl
    have d1 : (W.setCell ⟨w.heap.size, 0, none⟩ (.int .i64 s.size)).cell? ⟨w.heap.size, 1, none⟩ = some (.slice none 0 0) := by rw [cell_of_row _ _ _ _ _ _ hs1]; rfl
    have f1 := frozen_of_row _ _ 1 _ _ hs1
    have hs2 : ((W.setCell ⟨w.heap.size, 0, none⟩ (.int .i64 s.size)).setCell ⟨w.heap.size, 1, none⟩ (.slice va (texts s).length vc)).heap[w.heap.size]? = some (.cells #[.int .i64 s.size, .slice va (texts s).length vc] 24 (0, 0)) := by rw [heap_setCell_same _ _ _ _ _ _ hs1]; rfl
    have hK' := (KeepsOthers.setCell _ ⟨w.heap.size, 1, none⟩ (.slice va (texts s).length vc)).same D _ ((KeepsOthers.setCell W ⟨w.heap.size, 0, none⟩ (.int .i64 s.size)).same D _ hK rfl) rfl
    have hR2 := (hrow.kept (grown_set W w.heap.size 0 (.int .i64 s.size)) (.inr (row_not hM.res (by decide) hrow).symm))
    have hR3 := (hR2.kept (grown_set _ w.heap.size 1 (.slice va (texts s).length vc)) (.inr (row_not hs1 (by decide) hR2).symm))
    have hB2 : Below w.heap.size w ((W.setCell ⟨w.heap.size, 0, none⟩ (.int .i64 s.size)).setCell ⟨w.heap.size, 1, none⟩ (.slice va (texts s).length vc)) := (hM.below.setCell (p := ⟨w.heap.size, 0, none⟩) (Nat.le_refl _) _).setCell (p := ⟨w.heap.size, 1, none⟩) (Nat.le_refl _) _
    have HH := hide (And.intro hs2 (And.intro hK' (And.intro hR3 hB2)))
    clear hM hrow hv hs1 hs2 hK' hR2 hR3 hB2 G0 c3
    gi_wp2
    generalize (W.setCell ⟨w.heap.size, 0, none⟩ (.int .i64 s.size)).setCell ⟨w.heap.size, 1, none⟩ (.slice va (texts s).length vc) = W2 at *
    refine ⟨by simp, .inl ⟨_, _, rfl, run_takeDeferred HH.out.2.1, ?_⟩⟩
    have hg := grownBy_putObj' W2 D (.deferred none)
    have hrd : ∀ r, some D = some r → ∃ o : Obj, W2.heap[r]? = some o ∧ o.isCells = false := fun r e => by cases e; exact ⟨_, HH.out.2.1, rfl⟩
    refine ⟨_, results_cell2_row Tryd.results25 _ _ w.heap.size _ _ (0, 0) _ rfl (row_kept HH.out.1 hg (row_other HH.out.1 hrd)) Tryd.underlying24 rfl infoMan, _, rfl, own_other HH.out.2.2.1 hg hrd, HH.out.2.2.2.grown hg HH.out.2.2.2.size fun k e => ?_⟩
    cases e
    refine Nat.le_trans ?_ hD
    simp; omega
  case stop => rintro D c pre W hD hpre h hK; exact h.elim
end Go.Proofs.YtigkemkebceacaaDoor
