/- Contract: a node is let in. -/
import Derived.Test.YtkbboddibgfjbaaGreatDoorDagUnfit
import Derived.Test.YtkbboddibgfjbaaGreatDoorAppendAt
namespace Go.Dag
open Go.RowKit Go.Nod Go.MapFun
/-- While a node is let in: its block g, the Dag. -/
structure Tk (P : Program) (S Q base : Nat) (F0 F : Fp) (ks : List ByteArray) (sl : ByteArray → Sl) (r : Rw) (g : Nat) (cs : Array Value) (w0 w : World) : Prop where
  d : DagR P S base F ks sl r w
  row : w.heap[g]? = some (.cells cs Q (0, 0))
  out : ¬ F.has g
  tn : Tn F0 w0 w
  nw : F0.to F w0
variable {P : Program} {S Q base : Nat} {F0 F : Fp} {ks : List ByteArray} {sl : ByteArray → Sl} {r : Rw} {g : Nat} {cs : Array Value} {w0 w w' : World}
theorem Tk.step (h : Tk P S Q base F0 F ks sl r g cs w0 w) (k : Below w.heap.size w w') : Tk P S Q base F0 F ks sl r g cs w0 w' :=
  ⟨h.d.below k, (k.block _ (Array.getElem?_eq_some_iff.1 h.row).1).trans h.row, h.out, h.tn.trans (.of_below k (F := F)) h.nw, h.nw⟩
/-- The Dag has turned. -/
theorem Tk.turn {F2 : Fp} {r2 : Rw} (h : Tk P S Q base F0 F ks sl r g cs w0 w) (k : DagR P S base F2 ks sl r2 w' ∧ Tn F w w' ∧ F.to F2 w) : Tk P S Q base F0 F2 ks sl r2 g cs w0 w' := by
  have hl := (Array.getElem?_eq_some_iff.1 h.row).1
  refine ⟨k.1, (k.2.1.block _ hl h.out).trans h.row, fun e => ?_, h.tn.trans k.2.1 h.nw, Fp.to_trans h.nw k.2.2 h.tn.size⟩
  rcases k.2.2 g e with e | e
  · exact h.out e
  · omega
/-- Another own row, whose block is none of the Dag's. -/
theorem Tk.start (h : DagR P S base F ks sl r w) (cs : Array Value) : Tk P S Q base F F ks sl r w.heap.size cs w (w.alloc (.cells cs Q)) :=
  have k := (Below.refl w.heap.size w).alloc (Nat.le_refl _) (.cells cs Q)
  ⟨h.below k, heap_alloc_new _ _, fun e => Nat.lt_irrefl _ (h.lt _ e), .of_below k, F.to_refl w⟩
theorem Par.add {l m : Ns} {x : ByteArray × Nd} (h : Par F sl l w) (h1 : StrRow.Reads w (sl x.1).v x.2.ps) (h2 : ∀ a, (sl x.1).a = some a → a < w.heap.size ∧ ¬ F.has a) (hs : ∀ y ∈ m, y = x ∨ y ∈ l) : Par F sl m w := by
  refine ⟨fun y hy => ?_, fun y hy => ?_⟩ <;> rcases hs y hy with rfl | hy
  · exact h1
  · exact h.reads y hy
  · exact h2
  · exact h.out y hy
/-- Without the first parents. -/
theorem cuts_take {ps : List ByteArray} {i : Nat} {x : ByteArray} (H : List (ByteArray × Int)) (hx : ps[i]? = some x) : (ps.take (i + 1)).foldl cut H = cut ((ps.take i).foldl cut H) x := by
  rw [List.take_add_one, hx, List.foldl_append]
  rfl
theorem cuts_none {ps : List ByteArray} {H : List (ByteArray × Int)} {h : ByteArray} (hn : lk H h = none) : lk (ps.foldl cut H) h = none := lk_none.2 fun x hx => lk_none.1 hn x (mem_cuts.1 hx).1
theorem cuts_le (ps : List ByteArray) : ∀ (H : List (ByteArray × Int)), (ps.foldl cut H).length ≤ H.length := by
  induction ps with
  | nil => intro H; exact Nat.le_refl _
  | cons p ps ih => intro H; exact Nat.le_trans (ih _) (List.length_filter_le _ _)
theorem hds_le (T : Ns) : (hds T).length ≤ T.length := by
  have : ∀ (l : Ns) (H : List (ByteArray × Int)), (l.foldl hstep H).length ≤ H.length + l.length := by
    intro l
    induction l with
    | nil => intro H; exact Nat.le_refl _
    | cons x l ih =>
      intro H
      have h1 := ih (hstep H x)
      have h2 : (hstep H x).length ≤ H.length + 1 := by
        unfold hstep
        rw [List.length_append]
        have := cuts_le x.2.ps H
        simp only [List.length_cons, List.length_nil]
        omega
      simp only [List.foldl_cons, List.length_cons]
      omega
  have h := this T []
  rw [List.length_nil, Nat.zero_add] at h
  exact h
end Go.Dag
namespace Go.Proofs.YtkbboddibgfjbaaGreatDoor
open Go.RowKit Go.Sort Go.Nod Go.MapFun Go.Dag Go.AppendAt
attribute [local go_sem] Oper.semAt_some
theorem infoNd : (Tryz.prog.info? 60).map (·.size) = some 12 := by kernel_rfl
set_option maxRecDepth 100000 in
set_option maxHeartbeats 4000000 in
theorem takeDag_any {base : Nat} {F : Fp} {ks : List ByteArray} {sl : ByteArray → Sl} {r : Rw} (h : ByteArray) (n : Nd) (w : World) (hD : DagR Tryz.prog 75 base F ks sl r w) (hR : StrRow.Reads w (sl h).v n.ps) (hO : ∀ a, (sl h).a = some a → a < w.heap.size ∧ ¬ F.has a)
    (hg : n.Good) (h32 : h.size = 32) (hN : lk r.N h = none) (hH : lk r.H h = none) (hK : r.N.length ≤ 100000 ∧ r.O.length ≤ 100000 ∧ r.H.length ≤ 100000) :
    Calls Tryz.prog 57 #[.pointer (some ⟨F.b, 0, none⟩), .string h, n.v (sl h).v] w fun e w' => e = .returned (.tuple #[]) ∧ ∃ ov, DagR Tryz.prog 75 base { F with ov := ov } ks sl ⟨r.N ++ [(h, n)], r.O ++ [h], hstep r.H (h, n), r.W, r.C⟩ w' ∧ Tn F w w' ∧ F.to { F with ov := ov } w := by
  obtain ⟨i9, hi9, hz0, hz1, hz2⟩ := info_parts dgInfo9
  obtain ⟨pa, pn, pc, hsl⟩ := (sl h).form
  have hpn : pn = n.ps.length := by
    obtain ⟨_, _, e⟩ := hR.form
    rw [hsl] at e
    simp only [Value.slice.injEq] at e
    exact e.2.1
  subst hpn
  have hfew := hg.few
  have hs : h.size ≤ maxLen := by unfold maxLen; omega
  have HX := hide (And.intro hR (And.intro hO (And.intro hg (And.intro hN (And.intro hH hK)))))
  have I := hide (Tk.start (Q := 60) hD (n.cs (.slice pa n.ps.length pc)))
  have HR0 : Hid (StrRow.Reads w (.slice pa n.ps.length pc) n.ps) := hsl ▸ hR
  clear hR hO hN hH hK hD
  rw [hsl]
  unfold Nd.v
  go_enter Tryz.func57, Tryz.ntmps57
  go_upto_region 1 with fail
  obtain ⟨g, hgw⟩ : ∃ g, g = w.heap.size := ⟨_, rfl⟩
  have HG := hide hgw
  rw [← hgw] at I ⊢
  generalize w.alloc (.cells (n.cs (.slice pa n.ps.length pc)) 60) = w1 at *
  clear hgw
  obtain ⟨c0, c1, c2, c3, c4, c5⟩ := I.out.d.cells
  have r1 := cell_regrown c1
  clear c0 c1 c2 c3 c4 c5
  refine QuietCalls.tail 6 (by kernel_rfl) (by kernel_rfl) ?_
  simp only [List.take_succ_cons, List.take_zero, List.drop_succ_cons, List.drop_zero]
  iterate 5 first | go_big_quiet_step (fail) | quiet_step (fail)
  refine QuietCalls.load rfl 60 _ rfl _ rfl _ _ _ _ I.out.row Tryz.underlying60 rfl infoNd ?_; simp only [Act.put, List.setIfInBounds_toArray, List.set_cons_succ, List.set_cons_zero]
  refine wpQuiet_nil ?_
  intro w2 hb2
  replace I := hide (I.out.step hb2)
  clear hb2 r1
  have hv : ndE.v (nx sl h n) = .agg (n.cs (.slice pa n.ps.length pc)) := by show n.v (sl h).v = _; rw [hsl]; rfl
  obtain ⟨w3, hrun, hm3, hg3⟩ := I.out.d.nodes.store Tryz.underlying9 dagMap1 (by rw [told_length]; have := HX.out.2.2.2.2.2.1; unfold maxLen; omega) h hs (nx sl h n) (by rw [lk_told, HX.out.2.2.2.1]; rfl)
  rw [hv] at hrun
  have I3 := hide (I.out.turn (F2 := F) (r2 := ⟨r.N ++ [(h, n)], r.O, r.H, r.W, r.C⟩) (by
    have := I.out.d.setN (N := r.N ++ [(h, n)]) hg3 (by rw [told_append]; exact hm3) (I.out.d.par.add (x := (h, n)) (reads_kept HX.out.1 I.out.tn.size fun a ha hl => I.out.tn.block a hl (HX.out.2.1 a (by rw [← Sl.own]; exact ha)).2) (fun a ha => ⟨Nat.lt_of_lt_of_le (HX.out.2.1 a ha).1 I.out.tn.size, (HX.out.2.1 a ha).2⟩) (fun y hy => by
      simp only [List.mem_append, List.mem_singleton] at hy ⊢
      rcases hy with (hy | hy) | hy
      · exact .inr (.inl hy)
      · exact .inl hy
      · exact .inr (.inr hy)))
    exact ⟨this.1, this.2, F.to_refl _⟩))
  clear hm3 hg3 I hv
  obtain ⟨c0, c1, c2, c3, c4, c5⟩ := I3.out.d.cells
  clear c0 c1 c3 c4 c5
  have hgo : base ≤ (w3.alloc (.cells #[.string h] 9)).heap.size := Nat.le_trans I3.out.d.size (by simp)
  go_wp2_with (at_builtin; refine wpList_append_at rfl _ _ 24 rfl base 9 i9 (.string ⟨#[]⟩) 16 Tryz.underlying24 hi9 hz0 hz1 hz2 rfl _ _ _ rfl (I3.out.d.order.alloc _) ⟨w3.heap.size, 0, none⟩ 1 1 [.string h] rfl rfl (cell_one_new _ _ _) ?a2 ?a3 ?a4 hgo ?_)
  case a2 => intro u hu; simp at hu; subst hu; rfl
  case a3 => have := HX.out.2.2.2.2.2.2.1; show r.O.length + 1 ≤ maxLen; unfold maxLen; omega
  case a4 => have := HX.out.2.2.2.2.2.2.1; show (r.O.length + 1) * 16 ≤ _; omega
  intro v' w4 hown hgrow hwh
  have kA := (Below.refl w3.heap.size w3).alloc (Nat.le_refl _) (.cells #[.string h] 9)
  have IA := I3.out.step kA
  have hset := IA.d.setO (O := r.O ++ [h]) (v := v') hgrow (by rw [List.length_append, List.map_append]; exact hown) (fun x hx => by
    rcases hwh with e | e
    · rw [e] at hx; exact .inl hx
    · rw [e] at hx; cases hx; right; simp)
  have hrow4 := (hgrow.block F.b (IA.d.lt _ (.inl rfl)) fun e => IA.d.rowNe.1 e.symm).trans IA.d.row
  have hc4 : w4.cell? ⟨F.b, 2, none⟩ = some F.ov := by rw [cell_of_row _ _ _ _ _ _ hrow4]; rfl
  have hf4 : w4.frozen? ⟨F.b, 2, none⟩ = false := frozen_of_row _ _ _ _ _ hrow4
  have J0 := hide (IA.turn hset)
  obtain ⟨ya, yc, hyv⟩ := own_slice hown
  clear hrow4 hset IA kA hown hgrow hwh I3 c2 hgo hrun
  subst hyv
  go_upto_region 3 with fail
  generalize w4.setCell ⟨F.b, 2, none⟩ (.slice ya (r.O.length + 1) yc) = w5 at *
  generalize (Value.slice ya (r.O.length + 1) yc) = V at *
  dsimp only at J0
  clear hc4 hf4
  obtain ⟨e0, e1, e2, e3, e4, e5, e6, e7, e8, e9, e10, e11⟩ := cells12 J0.out.row
  clear e0 e2 e3 e4 e5 e6 e7 e8 e9 e10 e11
  go_wp2_with fail
  go_loopw [27] (fun vi wr => ∃ i : Nat, i ≤ n.ps.length ∧ vi = .int .i64 i ∧ Hid (Tk Tryz.prog 75 60 base F { F with ov := V } ks sl ⟨r.N ++ [(h, n)], r.O ++ [h], (n.ps.take i).foldl cut r.H, r.W, r.C⟩ g (n.cs (.slice pa n.ps.length pc)) w wr)) (fun vi _ => 1000 - (intOf vi).toNat)
  case atStart => exact ⟨0, Nat.zero_le _, rfl, J0.out⟩
  case round =>
    obtain ⟨i, hi, rfl, J⟩ := hrel
    clear e1
    by_cases hlt : i < n.ps.length
    · have hlt' : (i : Int) < n.ps.length := by omega
      have hrd : StrRow.Reads wr (.slice pa n.ps.length pc) n.ps := reads_kept HR0.out J.out.tn.size fun a ha hl => J.out.tn.block a hl (HX.out.2.1 a (by rw [← Sl.own, hsl]; exact ha)).2
      obtain ⟨b', off, cap, hv, hcap, hbl⟩ := hrd.at (by intro h; rw [h] at hlt; simp at hlt)
      simp only [Value.slice.injEq, true_and] at hv
      obtain ⟨rfl, rfl⟩ := hv
      obtain ⟨x, hx⟩ : ∃ x, n.ps[i]? = some x := ⟨_, List.getElem?_eq_getElem hlt⟩
      have hcell := hrd.cell hx
      have hx32 := hg.all x (List.mem_of_getElem? hx)
      obtain ⟨c0, c1, c2, c3, c4, c5⟩ := J.out.d.cells
      dsimp only at c3
      clear c0 c1 c2 c4 c5 hrd
      obtain ⟨w6, hdel, hm6, hg6⟩ := J.out.d.heads.del Tryz.underlying9 Tryz.underlying73 x (by unfold maxLen; omega) 0
      dsimp only at hdel
      have J2 := hide (J.out.turn (F2 := { F with ov := V }) (r2 := ⟨r.N ++ [(h, n)], r.O ++ [h], (n.ps.take (i + 1)).foldl cut r.H, r.W, r.C⟩) (by
        have := J.out.d.setH (H := (n.ps.take (i + 1)).foldl cut r.H) hg6 (by rw [cuts_take _ hx]; exact hm6)
        exact ⟨this.1, this.2, Fp.to_refl _ _⟩))
      clear hm6 hg6
      go_wp2_with fail
      go_roundw
      case rel => exact ⟨i + 1, by omega, by go_num, J2.out⟩
      case measure => simp [intOf]; omega
    · have hlt' : ¬ ((i : Int) < n.ps.length) := by omega
      have hin : i = n.ps.length := by omega
      subst hin
      rw [List.take_length] at J
      obtain ⟨c0, c1, c2, c3, c4, c5⟩ := J.out.d.cells
      dsimp only at c3
      have r3 := cell_regrown c3
      clear c0 c1 c2 c3 c4 c5
      obtain ⟨e0, e1, e2, e3, e4, e5, e6, e7, e8, e9, e10, e11⟩ := cells12 J.out.row
      have q3 := cell_regrown e3
      clear e0 e1 e2 e3 e4 e5 e6 e7 e8 e9 e10 e11
      go_upto_region 8 with fail
      refine QuietCalls.tail 9 (by kernel_rfl) (by kernel_rfl) ?_
      simp only [List.take_succ_cons, List.take_zero, List.drop_succ_cons, List.drop_zero]
      iterate 9 first | go_big_quiet_step (fail) | quiet_step (fail)
      refine wpQuiet_nil ?_
      intro w7 hb7
      replace J := hide (J.out.step hb7)
      clear hb7 r3 q3
      obtain ⟨w8, hrun, hm8, hg8⟩ := J.out.d.heads.store Tryz.underlying9 Tryz.underlying73 (by have := HX.out.2.2.2.2.2.2.2; have := cuts_le n.ps r.H; unfold maxLen; dsimp only; omega) h hs n.op.tm.c (cuts_none HX.out.2.2.2.2.1)
      have J2 := hide (J.out.turn (F2 := { F with ov := V }) (r2 := ⟨r.N ++ [(h, n)], r.O ++ [h], hstep r.H (h, n), r.W, r.C⟩) (by
        have := J.out.d.setH (H := hstep r.H (h, n)) hg8 hm8
        exact ⟨this.1, this.2, Fp.to_refl _ _⟩))
      replace hrun : (Instr.mapUpdate 73 (.map (some F.hm)) (.string h) (.int .u64 n.op.tm.c)).run Tryz.prog w7 = .ok () w8 := hrun
      clear hm8 hg8
      go_wp2_with fail
      go_end0
      exact ⟨rfl, V, J2.out.d, J2.out.tn, J2.out.nw⟩
end Go.Proofs.YtkbboddibgfjbaaGreatDoor
