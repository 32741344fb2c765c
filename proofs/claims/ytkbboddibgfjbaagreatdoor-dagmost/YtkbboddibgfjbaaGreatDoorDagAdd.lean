/- Contract: bytes come: a node is taken, waits, or is refused. -/
import Derived.Test.YtkbboddibgfjbaaGreatDoorDagRead
import Derived.Test.YtkbboddibgfjbaaGreatDoorDagAsIn
import Derived.Laws.AppendOwnNone
namespace Go.Dag
open Go.RowKit Go.Nod Go.MapFun
/-- One more node's parents. -/
def put (sl : ByteArray → Sl) (h : ByteArray) (x : Sl) : ByteArray → Sl := fun t => if t = h then x else sl t
theorem put_same (sl : ByteArray → Sl) (h : ByteArray) (x : Sl) : put sl h x h = x := if_pos rfl
theorem put_other {sl : ByteArray → Sl} {h t : ByteArray} (x : Sl) (e : t ≠ h) : put sl h x t = sl t := if_neg e
variable {P : Program} {S Q base : Nat} {F0 F : Fp} {ks : List ByteArray} {sl sl2 : ByteArray → Sl} {r : Rw} {g : Nat} {cs : Array Value} {w0 w w' : World}
theorem DagR.resl (h : DagR P S base F ks sl r w) (he : ∀ x ∈ r.N ++ r.W, sl2 x.1 = sl x.1) : DagR P S base F ks sl2 r w where
  row := h.row
  ring := h.ring
  nodes := (told_sl (sl := sl) fun x hx => he x (List.mem_append_left _ hx)) ▸ h.nodes
  order := h.order
  heads := h.heads
  waiting := (told_sl (sl := sl) fun x hx => he x (List.mem_append_right _ hx)) ▸ h.waiting
  came := h.came
  par := ⟨fun x hx => (he x hx) ▸ h.par.reads x hx, fun x hx a ha => h.par.out x hx a (he x hx ▸ ha)⟩
  ne1 := h.ne1
  ne2 := h.ne2
  ne3 := h.ne3
  ne4 := h.ne4
  nine := h.nine
  base1 := h.base1
theorem Tk.resl (h : Tk P S Q base F0 F ks sl r g cs w0 w) (he : ∀ x ∈ r.N ++ r.W, sl2 x.1 = sl x.1) : Tk P S Q base F0 F ks sl2 r g cs w0 w := ⟨h.d.resl he, h.row, h.out, h.tn, h.nw⟩
theorem refuses_none {d : Dg} {h : ByteArray} {n : Nd} (hr : d.refuses h n ≠ 121) : lk d.taken h = none ∧ lk d.waits h = none := by
  unfold Dg.refuses at hr
  split at hr
  · exact absurd rfl hr
  · rename_i e
    constructor
    · cases h1 : lk d.taken h with
      | none => rfl
      | some x => exact absurd (.inl (by rw [h1]; rfl)) e
    · cases h1 : lk d.waits h with
      | none => rfl
      | some x => exact absurd (.inr (by rw [h1]; rfl)) e
theorem come_wait {d : Dg} {h : ByteArray} {n : Nd} (hr : d.refuses h n = 123) : d.come h n = (⟨d.taken, d.waits ++ [(h, n)]⟩, [], 123) := if_pos hr
theorem come_take {d : Dg} {h : ByteArray} {n : Nd} (hr : d.refuses h n = 0) : d.come h n = ((Dg.settle ⟨d.taken ++ [(h, n)], d.waits⟩).1, h :: (Dg.settle ⟨d.taken ++ [(h, n)], d.waits⟩).2, 0) := by
  unfold Dg.come
  rw [if_neg (by omega), if_pos hr]
theorem come_not {d : Dg} {h : ByteArray} {n : Nd} (h1 : d.refuses h n ≠ 123) (h2 : d.refuses h n ≠ 0) : d.come h n = (d, [], d.refuses h n) := by
  unfold Dg.come
  rw [if_neg h1, if_neg h2]
theorem settle_mem : ∀ (k : Nat) (d : Dg) {y : ByteArray × Nd}, y ∈ (settleF k d).1.taken ++ (settleF k d).1.waits → y ∈ d.taken ++ d.waits
  | 0, _, _, h => h
  | k + 1, d, y, h => by
    unfold settleF at h
    split at h
    · exact Dg.round_mem h
    · exact Dg.round_mem (settle_mem k d.round h)
theorem ok_take {d : Dg} (ho : d.Ok) {h : ByteArray} {n : Nd} (h1 : lk d.taken h = none) (h2 : lk d.waits h = none) (h3 : h.size = 32) (h4 : n.Good) : (Dg.mk (d.taken ++ [(h, n)]) d.waits).Ok := by
  have := (Ok.snoc (x := (h, n)) ho (by rw [lk_append, h1]; exact h2) h3 h4)
  refine this.perm ?_
  show ((d.taken ++ d.waits) ++ [(h, n)]).Perm ((d.taken ++ [(h, n)]) ++ d.waits)
  rw [List.append_assoc, List.append_assoc]
  exact List.Perm.append_left _ List.perm_append_comm
theorem ok_wait {d : Dg} (ho : d.Ok) {h : ByteArray} {n : Nd} (h1 : lk d.taken h = none) (h2 : lk d.waits h = none) (h3 : h.size = 32) (h4 : n.Good) : (Dg.mk d.taken (d.waits ++ [(h, n)])).Ok := by
  have := (Ok.snoc (x := (h, n)) ho (by rw [lk_append, h1]; exact h2) h3 h4)
  show Go.Dag.Ok (d.taken ++ (d.waits ++ [(h, n)]))
  rw [← List.append_assoc]
  exact this
theorem own_one {w : World} {base : Nat} (hb : base ≤ w.heap.size) (x : ByteArray) : (w.alloc (.cells #[.string x] 9)).ownsRow base 9 1 (.slice (some ⟨w.heap.size, 0, none⟩) 1 1) 1 ([x].map Value.string) :=
  ⟨rfl, .inr ⟨w.heap.size, 1, _, rfl, hb, heap_alloc_new _ _, Nat.le_refl _, by decide, rfl, rfl⟩⟩
/-- A row of one text, beside a Dag. -/
theorem Rn.one {d : Dg} (h : DagR P S base F ks sl d.raw w) (x : ByteArray) : Rn P S base F F ks sl d.raw (.slice (some ⟨w.heap.size, 0, none⟩) 1 1) [x] (.slice none 0 0) [] w (w.alloc (.cells #[.string x] 9)) :=
  have k := (Below.refl w.heap.size w).alloc (Nat.le_refl _) (.cells #[.string x] 9)
  ⟨h.below k, own_one (Nat.le_refl _) x, World.ownsRow_nil _ _ _ _, (fun y _ e => by cases e), (fun y hy e => by cases hy; exact Nat.lt_irrefl _ (h.lt _ e)), (fun y hy => by cases hy), fun y hy a ha => (h.par.out y hy a ha).1, .of_below k, F.to_refl w⟩
theorem lk_both {a b : Ns} {h : ByteArray} (h1 : lk a h = none) (h2 : lk b h = none) : lk (a ++ b) h = none := by rw [lk_append, h1, h2]
end Go.Dag
namespace Go.Proofs.YtkbboddibgfjbaaGreatDoor
open Go.RowKit Go.Sort Go.Wire Go.Stamp Go.Opn Go.Nod Go.MapFun Go.Dag Go.AppendAt
attribute [local go_sem] Oper.semAt_some
theorem add_no {d : Dg} {ks : List ByteArray} {s : ByteArray} (h : rdE ks s ≠ 0) : d.add ks s = (d, [], rdE ks s) := by
  unfold rdE at h ⊢
  unfold Dg.add
  by_cases h1 : decE s ≠ 0
  · rw [if_pos h1, if_pos h1]
  · rw [if_neg h1] at h ⊢
    rw [if_neg h1]
    by_cases h2 : (decN s).right ks = false
    · rw [if_pos h2, if_pos h2]
    · rw [if_neg h2] at h
      exact absurd rfl h
theorem add_yes {d : Dg} {ks : List ByteArray} {s : ByteArray} (h : rdE ks s = 0) : d.add ks s = d.come (tagD (decN s).body) (decN s) ∧ rdN ks s = decN s ∧ (decN s).Good := by
  have h1 : decE s = 0 := by
    unfold rdE at h
    by_cases h1 : decE s ≠ 0
    · rw [if_pos h1] at h; exact absurd h h1
    · exact Decidable.not_not.1 h1
  refine ⟨?_, ?_, decN_good h1⟩
  · unfold rdE at h
    unfold Dg.add
    rw [if_neg (fun e => e h1)] at h ⊢
    by_cases h2 : (decN s).right ks = false
    · rw [if_pos h2] at h; cases h
    · rw [if_neg h2]
  · unfold rdN
    rw [if_pos h]
theorem erNe (t : TypeId) (u : Value) (w : World) : (binOp .neq 79 (.iface t u) .nilIface).run Tryz.prog w = .ok (.bool true) w := by kernel_rfl
theorem erNeNil (w : World) : (binOp .neq 79 .nilIface .nilIface).run Tryz.prog w = .ok (.bool false) w := by kernel_rfl
theorem Er.is_zero {v : Value} (h : Er 0 v) : v = .nilIface := by
  rcases h with ⟨_, h⟩ | ⟨h, _⟩ | ⟨h, _⟩ | ⟨h, _⟩
  · exact h
  · exact absurd rfl h
  · cases h
  · cases h
theorem Er.form {k : Int} {v : Value} (h : Er k v) (hk : k ≠ 0) : ∃ t u, v = .iface t u := by
  rcases h with ⟨e, _⟩ | ⟨_, e⟩ | ⟨_, u, e⟩ | ⟨_, u, e⟩
  · exact absurd e hk
  · exact ⟨_, _, e⟩
  · exact ⟨_, _, e⟩
  · exact ⟨_, _, e⟩
/-- Behind bytes that came: d2 the Dag, L what was taken, k the number. -/
def AddP (base : Nat) (F : Fp) (ks : List ByteArray) (R : Dg × List ByteArray × Int) (v ev : Value) (w w' : World) : Prop :=
  ∃ F2 sl2, w'.ownsRow w.heap.size 9 1 v R.2.1.length (R.2.1.map Value.string) ∧ Rf R.2.2 ev w' ∧ (R.2.2 = 0 → ev = .nilIface) ∧ F2.b = F.b ∧ DagAt Tryz.prog 75 base F2 ks sl2 R.1 w' ∧ Tn F w w' ∧ F.to F2 w
theorem AddP.intro {base : Nat} {F : Fp} {ks : List ByteArray} {R : Dg × List ByteArray × Int} {v ev : Value} {w w' : World} (F2 : Fp) (sl2 : ByteArray → Sl) (h : w'.ownsRow w.heap.size 9 1 v R.2.1.length (R.2.1.map Value.string) ∧ Rf R.2.2 ev w' ∧ (R.2.2 = 0 → ev = .nilIface) ∧ F2.b = F.b ∧ DagAt Tryz.prog 75 base F2 ks sl2 R.1 w' ∧ Tn F w w' ∧ F.to F2 w) : AddP base F ks R v ev w w' := ⟨F2, sl2, h⟩
set_option maxRecDepth 100000 in
set_option maxHeartbeats 4000000 in
theorem addIn_any {base : Nat} {F : Fp} {ks : List ByteArray} {sl : ByteArray → Sl} {d : Dg} (s : ByteArray) (w : World) (hD : DagAt Tryz.prog 75 base F ks sl d w) (hks : ∀ k ∈ ks, k.size ≤ 1000000) (hs : s.size ≤ 281474976710656) (hst : Steps w) (hK : d.taken.length + d.waits.length ≤ 90000) :
    Calls Tryz.prog 30 #[.pointer (some ⟨F.b, 0, none⟩), .string s] w fun e w' => ∃ v ev, e = .returned (.tuple #[v, ev]) ∧ AddP base F ks (d.add ks s) v ev w w' := by
  obtain ⟨i9, hi9, hz0, hz1, hz2⟩ := info_parts dgInfo9
  have HRd := hide (readDag_any s w hD.r hks hs hst)
  have hN := erNe
  have hNN := erNeNil
  by_cases h0 : rdE ks s = 0
  · obtain ⟨hadd, hrn, hg⟩ := add_yes (d := d) h0
    rw [h0, hrn] at HRd
    rw [hadd]
    generalize decN s = n at *
    obtain ⟨h, hh⟩ : ∃ h, h = tagD n.body := ⟨_, rfl⟩
    rw [← hh]
    have h32 : h.size = 32 := by rw [hh]; exact tagD_size _
    have HD := hide hD
    replace HRd : Hid (Calls Tryz.prog 53 #[.pointer (some ⟨F.b, 0, none⟩), .string s] w fun e w' => ∃ pv, e = .returned (.tuple #[n.v pv, .nilIface]) ∧ w'.ownsRow w.heap.size 9 1 pv n.ps.length (n.ps.map Value.string) ∧ Below w.heap.size w w') := HRd.out.mono (by
      rintro e w' ⟨pv, v, e1, h1, h2, h3⟩
      exact ⟨pv, by rw [e1, h1.is_zero], h2, h3⟩)
    have HSt := hide hst
    clear hD hadd hrn h0
    unfold Nd.v at HRd
    go_enter Tryz.func30, Tryz.ntmps30
    go_upto_region 4 with (go_at_call 53; refine HRd.out.mono ?_; rintro e w1 ⟨pv, rfl, h1, k1⟩; obtain ⟨pa, pc, hpv⟩ := own_slice h1; have H1 := hide (And.intro h1 k1); clear h1 k1; subst hpv)
    obtain ⟨X, hXv, hXa⟩ := Sl.of_own H1.out.1
    generalize n.ps.length = pn at *
    have k2 := (Below.refl w1.heap.size w1).alloc (Nat.le_refl _) (.cells (n.cs (.slice pa pn pc)) 60)
    have I2 := hide (show Tk Tryz.prog 75 60 base F F ks sl d.raw w1.heap.size (n.cs (.slice pa pn pc)) w (w1.alloc (.cells (n.cs (.slice pa pn pc)) 60)) from
      ⟨(HD.out.r.below H1.out.2).below k2, heap_alloc_new _ _, fun e => Nat.lt_irrefl _ ((HD.out.r.below H1.out.2).lt _ e), .of_below (H1.out.2.trans (k2.mono H1.out.2.size)), F.to_refl w⟩)
    have B2 := hide (And.intro (H1.out.2.trans (k2.mono H1.out.2.size)) (own_low H1.out.1 fun g hg => k2.block g (H1.out.1.lt g hg).2))
    generalize w1.alloc (.cells (n.cs (.slice pa pn pc)) 60) = w2 at *
    generalize hgg : w1.heap.size = g at *
    have HHs := hide (fun w' (k : Below w2.heap.size w2 w') => nodeHash_any n (.slice pa pn pc) w' ((StrRow.Reads.of_own B2.out.2).below k (Nat.le_refl _)) hg.sig (HSt.out.below (B2.out.1.trans (k.mono B2.out.1.size)) HSt.out.pos))
    have HRf := hide (fun w' (k : Below w2.heap.size w2 w') => refuses_any h n (.slice pa pn pc) w' (HD.out.below (B2.out.1.trans (k.mono B2.out.1.size))) ((StrRow.Reads.of_own B2.out.2).below k (Nat.le_refl _)) hg h32 (by omega))
    rw [← hh] at HHs
    unfold Nd.v at HHs HRf
    clear k2 H1 HRd hgg hh
    go_upto_region 6 with (first
      | (refine wpList_load_row rfl 60 _ rfl _ rfl _ _ _ _ I2.out.row Tryz.underlying60 rfl infoNd ?_)
      | (refine wpList_load_row rfl 60 _ rfl _ rfl _ _ _ _ I3.out.row Tryz.underlying60 rfl infoNd ?_)
      | (go_at_call 54; refine (HHs.out _ (Below.refl _ _)).mono ?_; rintro e w3 ⟨rfl, k3⟩; have I3 := hide (I2.out.step k3); have B3 := hide k3; clear k3)
      | (go_at_call 55; refine (HRf.out _ B3.out).mono ?_; rintro e w4 ⟨ev, rfl, her, k4⟩; have I4 := hide (I3.out.step k4); have B4 := hide (B3.out.trans (k4.mono B3.out.size)); clear k4))
    have HEr := hide her
    have HI := hide (isWait_any her)
    have B5 := hide (B2.out.1.trans (B4.out.mono B2.out.1.size))
    have HP4 : Hid (StrRow.Reads w4 X.v n.ps ∧ ∀ a, X.a = some a → a < w4.heap.size ∧ ¬ F.has a) := by
      refine ⟨?_, fun a ha => ?_⟩
      · rw [hXv]
        exact (StrRow.Reads.of_own B2.out.2).below B4.out (Nat.le_refl _)
      · have h1 := B2.out.2.lt a (hXa a ha)
        refine ⟨Nat.lt_of_lt_of_le h1.2 B4.out.size, fun e => ?_⟩
        have := HD.out.r.lt a e
        omega
    have HNo := hide (fun hr => refuses_none (d := d) (h := h) (n := n) hr)
    have HC1 := hide (fun hr => come_wait (d := d) (h := h) (n := n) hr)
    have HC2 := hide (fun hr => come_take (d := d) (h := h) (n := n) hr)
    have HC3 := hide (fun h1 h2 => come_not (d := d) (h := h) (n := n) h1 h2)
    generalize d.refuses h n = RF at *
    clear her I2 I3 B3 HRf HHs
    by_cases hR1 : RF = 123
    · subst hR1
      obtain ⟨et, eu, rfl⟩ := HEr.out.form (by decide)
      have HC0 := hide (HC1.out rfl)
      have hno := HNo.out (by decide)
      have HOk := hide (ok_wait HD.out.ok hno.1 hno.2 h32 hg)
      have J4 := hide (I4.out.resl (sl2 := put sl h X) (fun x hx => put_other X (fun e => lk_none.1 (lk_both hno.1 hno.2) x hx e)))
      clear HC1 HC2 HC3 I4
      go_upto_region 7 with (go_at_call 56; refine (HI.out _).mono ?_; rintro e w5 ⟨rfl, hw5⟩; subst hw5)
      obtain ⟨c0, c1, c2, c3, c4, c5⟩ := J4.out.d.cells
      have r4 := cell_regrown c4
      clear c0 c1 c2 c3 c4 c5
      refine QuietCalls.tail 6 (by kernel_rfl) (by kernel_rfl) ?_
      simp only [List.take_succ_cons, List.take_zero, List.drop_succ_cons, List.drop_zero]
      iterate 5 first | go_big_quiet_step (fail) | quiet_step (fail)
      refine QuietCalls.load rfl 60 _ rfl _ rfl _ _ _ _ J4.out.row Tryz.underlying60 rfl infoNd ?_; simp only [Act.put, List.setIfInBounds_toArray, List.set_cons_succ, List.set_cons_zero]
      refine wpQuiet_nil ?_
      intro w6 k6
      have J6 := hide (J4.out.step k6)
      have HP6 := hide (And.intro (HP4.out.1.below k6 (Nat.le_refl _)) (fun a ha => And.intro (Nat.lt_of_lt_of_le (HP4.out.2 a ha).1 k6.size) (HP4.out.2 a ha).2))
      clear k6 r4 J4 HP4
      have hv : ndE.v (nx (put sl h X) h n) = .agg (n.cs (.slice pa pn pc)) := by show n.v (put sl h X h).v = _; rw [put_same, hXv]; rfl
      obtain ⟨w7, hrun, hm7, hg7⟩ := J6.out.d.waiting.store Tryz.underlying9 dagMap1 (by rw [told_length]; simp only [Dg.raw]; unfold maxLen; omega) h (by unfold maxLen; omega) (nx (put sl h X) h n) (by rw [lk_told]; simp only [Dg.raw]; rw [hno.2]; rfl)
      rw [hv] at hrun
      have J7 := hide (J6.out.turn (F2 := F) (r2 := ⟨d.taken, d.taken.map (·.1), hds d.taken, d.waits ++ [(h, n)], d.waits.map (·.1)⟩) (by
        have := J6.out.d.setW (W := d.waits ++ [(h, n)]) hg7 (by rw [told_append]; exact hm7) (J6.out.d.par.add (x := (h, n)) (by rw [put_same]; exact HP6.out.1) (by rw [put_same]; exact HP6.out.2) (fun y hy => by
          simp only [Dg.raw, List.mem_append, List.mem_singleton] at hy ⊢
          rcases hy with hy | hy | hy
          · exact .inr (.inl hy)
          · exact .inr (.inr hy)
          · exact .inl hy))
        exact ⟨this.1, this.2, F.to_refl _⟩))
      clear hm7 hg7 J6 hv HP6
      have hlm : Hid ((d.waits.map (·.1)).length = d.waits.length) := List.length_map ..
      obtain ⟨CM, hCM⟩ : ∃ CM, CM = d.waits.map (·.1) := ⟨_, rfl⟩
      rw [← hCM] at J7 hlm
      have HCM := hide hCM
      clear hCM
      obtain ⟨c0, c1, c2, c3, c4, c5⟩ := J7.out.d.cells
      clear c0 c1 c2 c3 c4
      have hgo : base ≤ (w7.alloc (.cells #[.string h] 9)).heap.size := Nat.le_trans J7.out.d.size (by simp)
      go_wp2_with (at_builtin; refine wpList_append_at rfl _ _ 24 rfl base 9 i9 (.string ⟨#[]⟩) 16 Tryz.underlying24 hi9 hz0 hz1 hz2 rfl _ _ _ rfl (J7.out.d.came.alloc _) ⟨w7.heap.size, 0, none⟩ 1 1 [.string h] rfl rfl (cell_one_new _ _ _) ?a2 ?a3 ?a4 hgo ?_)
      case a2 => first | rfl | (intro u hu; simp at hu; subst hu; rfl)
      case a3 => show CM.length + 1 ≤ maxLen; rw [hlm.out]; unfold maxLen; omega
      case a4 => show (CM.length + 1) * 16 ≤ _; rw [hlm.out]; omega
      intro v' w8 hown hgrow hwh
      have kA := (Below.refl w7.heap.size w7).alloc (Nat.le_refl _) (.cells #[.string h] 9)
      have IA := J7.out.step kA
      have hset := IA.d.setC (C := CM ++ [h]) (v := v') hgrow (by rw [List.length_append, List.map_append]; exact hown) (fun x hx => by
        rcases hwh with e | e
        · rw [e] at hx; exact .inl hx
        · rw [e] at hx; cases hx; right; simp)
      have hrow8 := (hgrow.block F.b (IA.d.lt _ (.inl rfl)) fun e => IA.d.rowNe.2 e.symm).trans IA.d.row
      have hc8 : w8.cell? ⟨F.b, 5, none⟩ = some F.cv := by rw [cell_of_row _ _ _ _ _ _ hrow8]; rfl
      have hf8 : w8.frozen? ⟨F.b, 5, none⟩ = false := frozen_of_row _ _ _ _ _ hrow8
      have J8 := hide (IA.turn hset)
      obtain ⟨ya, yc, hyv⟩ := own_slice hown
      clear hrow8 hset IA kA hown hgrow hwh J7 c5 hgo hrun
      subst hyv
      go_wp2_with fail
      go_ret2
      rw [HC0.out]
      have J9 := J8.out.step ((Below.refl _ _).alloc (Nat.le_refl _) (.cells #[.string h, .iface et eu] 114))
      refine ⟨_, _, rfl, AddP.intro { F with cv := .slice ya (CM.length + 1) yc } (put sl h X) ⟨World.ownsRow_nil _ _ _ _, .inr ⟨_, h, .iface et eu, rfl, (by have := heap_alloc_new (w8.setCell ⟨F.b, 5, none⟩ (.slice ya (CM.length + 1) yc)) (.cells #[.string h, .iface et eu] 114); simpa using this), HEr.out⟩, (fun e => by cases e), rfl, ⟨?_, HOk.out⟩, J9.tn, J9.nw⟩⟩
      · show DagR _ _ _ _ _ _ ⟨d.taken, d.taken.map (·.1), hds d.taken, d.waits ++ [(h, n)], (d.waits ++ [(h, n)]).map (·.1)⟩ _
        rw [List.map_append, ← HCM.out]
        exact J9.d
    · rw [beq_eq_false_iff_ne.2 hR1] at HI
      by_cases hR0 : RF = 0
      · subst hR0
        obtain rfl := HEr.out.is_zero
        have HC0 := hide (HC2.out rfl)
        clear HC1 HC2 HC3
        have hno := HNo.out (by decide)
        have HOk := hide (ok_take HD.out.ok hno.1 hno.2 h32 hg)
        have J4 := hide (I4.out.resl (sl2 := put sl h X) (fun x hx => put_other X (fun e => lk_none.1 (lk_both hno.1 hno.2) x hx e)))
        have HT : Hid (Calls Tryz.prog 57 #[.pointer (some ⟨F.b, 0, none⟩), .string h, .agg (n.cs (.slice pa pn pc))] w4 fun e w' => e = .returned (.tuple #[]) ∧ ∃ ov, DagR Tryz.prog 75 base { F with ov := ov } ks (put sl h X) (Dg.mk (d.taken ++ [(h, n)]) d.waits).raw w' ∧ Tn F w4 w' ∧ F.to { F with ov := ov } w4) := by
          have := takeDag_any h n w4 J4.out.d (by rw [put_same]; exact HP4.out.1) (by rw [put_same]; exact HP4.out.2) hg h32 hno.1 (hds_none hno.1) (by have := hds_le d.taken; simp only [Dg.raw, List.length_map]; omega)
          rw [put_same, hXv] at this
          simp only [Dg.raw, List.map_append, hds_append] at this ⊢
          exact this
        go_upto_region 12 with (first
          | (go_at_call 56; refine (HI.out _).mono ?_; rintro e w5 ⟨rfl, hw5⟩; subst hw5)
          | (refine wpList_load_row rfl 60 _ rfl _ rfl _ _ _ _ J4.out.row Tryz.underlying60 rfl infoNd ?_)
          | (go_at_call 57; refine HT.out.mono ?_; rintro e w6 ⟨rfl, ov, h6⟩))
        obtain ⟨d1, hd1⟩ : ∃ d1, d1 = Dg.mk (d.taken ++ [(h, n)]) d.waits := ⟨_, rfl⟩
        have hd1l : d1.taken.length + d1.waits.length ≤ 100000 := by rw [hd1]; simp only [List.length_append, List.length_cons, List.length_nil]; omega
        rw [← hd1] at h6 HOk
        have HD1 := hide hd1
        clear hd1
        have J6 := hide (J4.out.turn h6)
        have R7 := hide (Rn.one h6.1 h)
        have HSe := hide (settle_any (F := { F with ov := ov }) (w6.alloc (.cells #[.string h] 9)) ⟨R7.out.d, HOk.out⟩ hd1l)
        dsimp only at HSe
        have hb6 : base ≤ w6.heap.size := J6.out.d.size
        have hw6 : w.heap.size ≤ w6.heap.size := J6.out.tn.size
        clear h6 HT J4 I4 HP4 HI B5
        have hlen : (Dg.settle d1).2.length ≤ 100000 := Nat.le_trans (settle_len _ _) (by omega)
        by_cases hz : d1.settle.2 = []
        · go_wp2_with (first
            | (go_at_call 58; refine HSe.out.mono ?_; rintro e w8 ⟨v8, F2, rfl, h1, h2, h3, h4, h5, h7⟩; obtain rfl := h7 hz; have H8 := hide (And.intro h1 (And.intro h2 (And.intro h3 (And.intro h4 h5)))); have R8 := hide (R7.out.turn ⟨h3.r, h4, h5⟩ (fun y hy => R7.out.par0 y (settle_mem _ _ hy))); clear h1 h2 h3 h4 h5 h7)
            | (at_builtin; refine wpList_append_own_none rfl _ _ 24 rfl w6.heap.size 9 i9 1 Tryz.underlying24 hi9 _ _ _ rfl R8.out.tak rfl ?_))
          go_ret2
          rw [HC0.out, ← HD1.out]
          refine ⟨_, _, rfl, AddP.intro F2 _ ⟨?_, .inl (.inl ⟨rfl, rfl⟩), fun _ => rfl, H8.out.2.1.1, ⟨R8.out.d, H8.out.2.2.1.ok⟩, J6.out.tn.trans R8.out.tn J6.out.nw, Fp.to_trans J6.out.nw R8.out.nw J6.out.tn.size⟩⟩
          rw [hz]
          exact nd_own_mono R8.out.tak hw6
        · go_wp2_with (first
            | (go_at_call 58; refine HSe.out.mono ?_; rintro e w8 ⟨v8, F2, rfl, h1, h2, h3, h4, h5, h7⟩
               obtain ⟨g8, c8, hyv⟩ : ∃ g8 c8, v8 = .slice (some ⟨g8, 0, none⟩) d1.settle.2.length c8 := (by
                 rcases h1.2 with ⟨_, e⟩ | ⟨g8, c8, _, e, _⟩
                 · exact absurd (List.length_eq_zero_iff.1 e) hz
                 · exact ⟨g8, c8, e⟩)
               have H8 := hide (And.intro h1 (And.intro h2 (And.intro h3 (And.intro h4 h5)))); have R8 := hide (R7.out.turn ⟨h3.r, h4, h5⟩ (fun y hy => R7.out.par0 y (settle_mem _ _ hy))); clear h1 h2 h3 h4 h5 h7; subst hyv)
            | (at_builtin; refine wpList_append_at rfl _ _ 24 rfl w6.heap.size 9 i9 (.string ⟨#[]⟩) 16 Tryz.underlying24 hi9 hz0 hz1 hz2 rfl _ _ _ rfl R8.out.tak ⟨g8, 0, none⟩ d1.settle.2.length c8 (d1.settle.2.map Value.string) rfl (List.length_map ..) (H8.out.1.cells rfl) ?a2 ?a3 ?a4 R8.out.tn.size ?_))
          case a2 => intro u hu; obtain ⟨y, _, rfl⟩ := List.mem_map.1 hu; rfl
          case a3 => simp only [List.length_cons, List.length_nil]; unfold maxLen; omega
          case a4 => simp only [List.length_cons, List.length_nil]; omega
          intro v' w9 hown hgrow hwh
          have R9 := hide (R8.out.addTs (xs := d1.settle.2) hb6 hgrow hown hwh)
          obtain ⟨za, zc, hzv⟩ := own_slice hown
          clear hown hgrow hwh
          subst hzv
          go_wp2_with fail
          go_ret2
          rw [HC0.out, ← HD1.out]
          refine ⟨_, _, rfl, AddP.intro F2 _ ⟨?_, .inl (.inl ⟨rfl, rfl⟩), fun _ => rfl, H8.out.2.1.1, ⟨R9.out.d, H8.out.2.2.1.ok⟩, J6.out.tn.trans R9.out.tn J6.out.nw, Fp.to_trans J6.out.nw R9.out.nw J6.out.tn.size⟩⟩
          exact nd_own_mono R9.out.tak hw6
      · obtain ⟨et, eu, rfl⟩ := HEr.out.form hR0
        clear HC1 HC2 HNo
        go_wp2_with (go_at_call 56; refine (HI.out _).mono ?_; rintro e w5 ⟨rfl, hw5⟩; subst hw5)
        go_ret2
        rw [HC3.out hR1 hR0]
        have k6 := B5.out.alloc B5.out.size (.cells #[.string h, .iface et eu] 114)
        exact ⟨_, _, rfl, AddP.intro F sl ⟨World.ownsRow_nil _ _ _ _, .inr ⟨_, _, _, rfl, heap_alloc_new _ _, HEr.out⟩, fun e => absurd e hR0, rfl, HD.out.below k6, .of_below k6, F.to_refl w⟩⟩
  · rw [add_no h0]
    have HD := hide hD
    generalize rdE ks s = RE at *
    clear hD
    unfold Nd.v at HRd
    go_enter Tryz.func30, Tryz.ntmps30
    go_wp2_with (go_at_call 53; refine HRd.out.mono ?_; rintro e w1 ⟨pv, v, rfl, her, h1, k1⟩; obtain ⟨pa, pc, rfl⟩ := own_slice h1; obtain ⟨et, eu, rfl⟩ := her.form h0; have H1 := hide (And.intro her k1); clear h1 k1 her)
    go_ret2
    have k2 := H1.out.2.alloc H1.out.2.size (.cells ((rdN ks s).cs (.slice pa (rdN ks s).ps.length pc)) 60)
    exact ⟨_, _, rfl, AddP.intro F sl ⟨World.ownsRow_nil _ _ _ _, .inl H1.out.1, fun e => absurd e h0, rfl, HD.out.below k2, .of_below k2, F.to_refl w⟩⟩
end Go.Proofs.YtkbboddibgfjbaaGreatDoor
