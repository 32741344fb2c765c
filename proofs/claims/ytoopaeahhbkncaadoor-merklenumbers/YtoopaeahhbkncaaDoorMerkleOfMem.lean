/- Contracts: the chunks gone over, as short texts; what a file's manifest keeps in memory while it grows. -/
import Derived.Test.YtoopaeahhbkncaaDoorMerkleFile
import Derived.Test.YtoopaeahhbkncaaDoorChunkIter
import Derived.Test.YtoopaeahhbkncaaDoorTailIn
import Derived.Test.YtoopaeahhbkncaaDoorWireRef
namespace Go.Proofs.YtoopaeahhbkncaaDoor
open Go.RowKit Go.Shelf Go.Wire Go.Mk Go.Chunk
attribute [local go_sem] Oper.semAt_some
/-- A text that is no longer than a file. -/
abbrev Short : Type := { x : ByteArray // x.size ≤ 8192 }
def strs (p : List Short) : List ByteArray := p.map fun x => x.1
set_option maxHeartbeats 2000000 in
theorem all_ins (s : ByteArray) (bx m : Nat) (w0 : World) (hs : s.size ≤ 8192) (hbx : w0.cell? ⟨bx, 0, none⟩ = some (.string s)) :
    SeqStopsK Fence.wide m Tryd.prog 65 #[.pointer (some ⟨bx, 0, none⟩)] (fun x : Short => #[.string x.1]) (fun _ _ => True) (fun xs => xs.map (·.1) = texts s) (fun pre => pre.map (·.1) <+: texts s) (texts s).length w0 := by
  intro l J Jx W hW hJ hJx hY h0
  refine callsIn_of_wp Tryd.func65 rfl trivial ?_ rfl
  simp only [Tryd.ntmps65, List.size_toArray, List.length_cons, List.length_nil, Nat.reduceAdd, Nat.reduceSub, Array.replicate_succ, Array.replicate_zero, List.push_toArray, List.append_toArray, List.nil_append, List.cons_append]
  have hlt : bx < w0.heap.size := by
    rcases Nat.lt_or_ge bx w0.heap.size with h | h
    · exact h
    · simp [World.cell?, Array.getElem?_eq_none h] at hbx
  have hb1 : W.cell? ⟨bx, 0, none⟩ = some (.string s) := (hW.cell (p := ⟨bx, 0, none⟩) hlt).trans hbx
  have HY := hide hY
  have H0 := hide h0
  clear hY h0 hbx
  gi_wp2_with fail
  gi_loopw [3] (fun vs wr => ∃ (r : ByteArray) (pre : List Short), vs = .string r ∧ r.size ≤ s.size ∧ Hid (pre.map (·.1) ++ texts r = texts s ∧ J pre wr)) (fun vs _ => match vs with | .string r => r.size | _ => 0)
  case atStart => exact ⟨s, [], rfl, Nat.le_refl _, rfl, H0.out⟩
  case round =>
    obtain ⟨r, pre, rfl, hr, HP⟩ := hrel
    by_cases h0 : r.size = 0
    · have he := empty_yes r h0
      gi_wp2_with fail
      go_end0
      refine ⟨⟨_, rfl⟩, .inl ⟨pre, ?_, HP.out.2⟩⟩
      have := HP.out.1
      rwa [texts_nil r h0, List.append_nil] at this
    · have he := empty_no r h0
      have HCUT := hide (cut_any r wr (by unfold maxLen; omega))
      have HST := hide (texts_step r h0)
      have hc1 := cut_bytes r
      have hc2 := cut_some r h0
      have hc3 : (cut r.data.toList : Int) ≤ r.size := by omega
      generalize cut r.data.toList = n at *
      have hpl : pre.length < (texts s).length := by
        have := congrArg List.length HP.out.1
        rw [HST.out, List.length_append, List.length_cons, List.length_map] at this
        omega
      obtain ⟨fn, tmps, assign, body, hy, hR⟩ := HY.out pre ⟨r.extract 0 n, by simp; omega⟩ wr HP.out.2 hpl
      have hn0 : (0 : Int) ≤ n := by omega
      gi_wp2_with (refine ⟨trivial, fun h => (by cases h), ?_⟩; gi_at_call 66; refine (callsIn_wide.2 HCUT.out).mono ?_; rintro e w1 ⟨rfl, hw⟩; subst hw)
      refine ⟨fun h => (by cases h), hR.mono ?_⟩
      rintro e W3 (⟨rfl, hJ3, hk3⟩ | ⟨rfl, hJx3⟩)
      · have HG := hide hJ3
        clear hJ3 hk3 hR hy
        gi_wp2_with fail
        go_roundw
        case rel =>
          refine ⟨r.extract n r.size, pre ++ [⟨r.extract 0 n, by simp; omega⟩], rfl, by simp; omega, ?_, HG.out⟩
          rw [List.map_append, List.append_assoc, List.map_singleton, List.singleton_append, ← HST.out, HP.out.1]
        case measure => simp; omega
      · clear hR hy
        gi_wp2_with fail
        refine bodyPost_ret (results_none rfl _ _ _) rfl ?_
        refine ⟨⟨_, rfl⟩, .inr ⟨pre ++ [⟨r.extract 0 n, by simp; omega⟩], ?_, hJx3⟩⟩
        rw [← HP.out.1, HST.out, List.map_append]
        exact ⟨texts (r.extract n r.size), by rw [List.append_assoc]; rfl⟩
theorem infoMan : (Tryd.prog.info? 26).map (·.size) = some 2 := by kernel_rfl
/-- What Of keeps between two rounds: a box that holds a slice of its own, with the digests of what has come; the block of the answer. -/
structure Ms (w : World) (n : Int) (xs : List ByteArray) (W : World) : Prop where
  res : W.heap[w.heap.size]? = some (.cells #[.int .i64 0, .slice none 0 0] 26 (0, 0))
  box : ∃ v, W.heap[w.heap.size + 1]? = some (.cells #[.int .i64 n, v] 26 (0, 0)) ∧ W.ownsRow w.heap.size 9 1 v xs.length (xs.map fun x => Value.string (digest x))
  below : Below w.heap.size w W
theorem row_kept {W W' : World} {row : Option Nat} {B : Nat} {cs : Array Value} {t : TypeId} (h : W.heap[B]? = some (.cells cs t (0, 0))) (hg : W.grownBy W' row) (hne : some B ≠ row) : W'.heap[B]? = some (.cells cs t (0, 0)) :=
  (hg.block B (Array.getElem?_eq_some_iff.1 h).1 hne).trans h
theorem row_other {W : World} {row : Option Nat} {B : Nat} {cs : Array Value} {t : TypeId} (h : W.heap[B]? = some (.cells cs t (0, 0))) (hr : ∀ r, row = some r → ∃ o : Obj, W.heap[r]? = some o ∧ o.isCells = false) : some B ≠ row := fun e => by
  obtain ⟨o, ho, hc⟩ := hr B e.symm
  rw [h] at ho; cases ho; cases hc
theorem own_other {W W' : World} {row : Option Nat} {base : Nat} {e : TypeId} {v : Value} {k : Nat} {xs : List Value} (h : W.ownsRow base e 1 v k xs) (hg : W.grownBy W' row) (hr : ∀ r, row = some r → ∃ o : Obj, W.heap[r]? = some o ∧ o.isCells = false) : W'.ownsRow base e 1 v k xs := by
  refine h.kept hg ?_
  rcases h.2 with ⟨rfl, _⟩ | ⟨g, cap, cur, rfl, _, hgb, _⟩
  · exact .inl rfl
  · refine .inr fun e' => ?_
    obtain ⟨o, ho, hc⟩ := hr g (by simpa [Value.ownBlock] using e'.symm)
    rw [hgb] at ho; cases ho; cases hc
theorem own_below {W W' : World} {base : Nat} {e : TypeId} {v : Value} {k : Nat} {xs : List Value} (h : W.ownsRow base e 1 v k xs) (hb : Below W.heap.size W W') : W'.ownsRow base e 1 v k xs := own_other h (grown_of hb) (fun _ e => by cases e)
theorem Ms.turned {w : World} {n : Int} {b : Nat} {xs : List ByteArray} {W W' : World} {row : Option Nat} (h : Ms w n xs W) (hg : W.grownBy W' row) (hr : ∀ r, row = some r → b ≤ r ∧ ∃ o : Obj, W.heap[r]? = some o ∧ o.isCells = false) (hb : w.heap.size ≤ b) : Ms w n xs W' := by
  obtain ⟨v, hv, ho⟩ := h.box
  exact ⟨row_kept h.res hg (row_other h.res fun r e => (hr r e).2), ⟨v, row_kept hv hg (row_other hv fun r e => (hr r e).2), own_other ho hg fun r e => (hr r e).2⟩, h.below.grown hg h.below.size fun k e => Nat.le_trans hb (hr k e).1⟩
theorem grown_set (w : World) (b i : Nat) (v : Value) : w.grownBy (w.setCell ⟨b, i, none⟩ v) (some b) :=
  ⟨rfl, rfl, rfl, Nat.le_of_eq (by simp), fun k _ hne => heap_setCell_other _ _ _ _ (fun e => hne (by rw [e]))⟩
theorem row_not {W : World} {B : Nat} {cs : Array Value} {t e : TypeId} (h : W.heap[B]? = some (.cells cs t (0, 0))) (hte : t ≠ e) {base k : Nat} {v : Value} {xs : List Value} (hr : W.ownsRow base e 1 v k xs) : some B ≠ v.ownBlock := by
  rcases hr.2 with ⟨rfl, _⟩ | ⟨g, cap, cur, rfl, _, hgb, _⟩
  · simp [Value.ownBlock]
  · intro e'
    obtain rfl : B = g := by simpa [Value.ownBlock] using e'
    rw [h] at hgb; cases hgb; exact hte rfl
theorem own_base {W : World} {base e : Nat} {v : Value} {k j : Nat} {xs : List Value} (h : W.ownsRow base e 1 v k xs) (ej : v.ownBlock = some j) : base ≤ j := by
  rcases h.2 with ⟨rfl, _⟩ | ⟨g, cap, cur, rfl, h1, _⟩
  · simp [Value.ownBlock] at ej
  · obtain rfl : g = j := by simpa [Value.ownBlock] using ej
    exact h1
theorem Ms.appended {w : World} {n : Int} {xs : List ByteArray} {x : ByteArray} {W w2 w3 : World} {v v' : Value} {tmp : Obj} (h : Ms w n xs W) (hv : W.heap[w.heap.size + 1]? = some (.cells #[.int .i64 n, v] 26 (0, 0))) (hrow : W.ownsRow w.heap.size 9 1 v xs.length (xs.map fun x => Value.string (digest x)))
    (k2 : Below W.heap.size W w2) (hown : w3.ownsRow w.heap.size 9 1 v' (xs.length + 1) ((xs.map fun x => Value.string (digest x)) ++ [Value.string (digest x)])) (hg : (w2.alloc tmp).grownBy w3 v.ownBlock) :
    w3.heap[w.heap.size + 1]? = some (.cells #[.int .i64 n, v] 26 (0, 0)) ∧ Ms w n (xs ++ [x]) (w3.setCell ⟨w.heap.size + 1, 1, none⟩ v') ∧ KeepsOthers W (w3.setCell ⟨w.heap.size + 1, 1, none⟩ v') := by
  have hrow2 := own_below hrow k2
  have hv2 := row_kept (row_kept hv (grown_of k2) (by simp)) (World.grownBy_alloc w2 tmp none) (by simp)
  have hr2 := row_kept (row_kept h.res (grown_of k2) (by simp)) (World.grownBy_alloc w2 tmp none) (by simp)
  have hv3 := row_kept hv2 hg (row_not hv2 (by decide) (hrow2.alloc tmp))
  have hr3 := row_kept hr2 hg (row_not hr2 (by decide) (hrow2.alloc tmp))
  refine ⟨hv3, ⟨row_kept hr3 (grown_set _ _ _ _) (by simp), ⟨v', ?_, ?_⟩, ?_⟩, ?_⟩
  · rw [heap_setCell_same _ _ _ _ _ _ hv3]; rfl
  · rw [List.length_append, List.map_append]
    exact hown.kept (grown_set _ _ _ _) (.inr (row_not hv3 (by decide) hown).symm)
  · have b2 := h.below.trans (k2.mono h.below.size)
    exact ((b2.alloc b2.size tmp).grown hg (b2.alloc b2.size tmp).size fun j ej => own_base hrow ej).setCell (p := ⟨w.heap.size + 1, 1, none⟩) (by simp) v'
  · refine ((show KeepsOthers W w2 from ⟨k2.size, fun k _ hk _ => (k2.block k (Array.getElem?_eq_some_iff.1 hk).1).trans hk⟩).trans (KeepsOthers.alloc w2 tmp)).trans ((KeepsOthers.of_grownBy hg fun j o ej hj => ?_).trans (KeepsOthers.setCell _ _ _))
    rcases (hrow2.alloc tmp).2 with ⟨rfl, _⟩ | ⟨g, cap, cur, rfl, _, hgb, _⟩
    · simp [Value.ownBlock] at ej
    · obtain rfl : g = j := by simpa [Value.ownBlock] using ej
      rw [hgb] at hj; cases hj; rfl
end Go.Proofs.YtoopaeahhbkncaaDoor
