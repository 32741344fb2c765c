/- Contract: the statements' own: the bytes of given nodes. -/
import Derived.Test.YtkbboddibgfjbaaGreatDoorDagRising
import Derived.Test.YtkbboddibgfjbaaGreatDoorAppendAt
import Derived.Test.YtkbboddibgfjbaaGreatDoorNodeRefs
import Derived.Test.YtkbboddibgfjbaaGreatDoorQuietAll
import Derived.Test.YtkbboddibgfjbaaGreatDoorRegionAll
import Derived.BigRegion
namespace Go.Dag
open Go.RowKit Go.Nod
/-- A slice of numbers. -/
def IntsAt (w : World) (v : Value) (xs : List Int) : Prop :=
  ((∃ a c, v = .slice a 0 c) ∧ xs = []) ∨ ∃ b off c, v = .slice (some ⟨b, off, none⟩) xs.length c ∧ b < w.heap.size ∧ xs.length ≤ c ∧ ∀ j x, xs[j]? = some x → w.cell? ⟨b, off + j, none⟩ = some (.int .i64 x)
theorem IntsAt.form {w : World} {v : Value} {xs : List Int} (h : IntsAt w v xs) : ∃ a c, v = .slice a xs.length c := by
  rcases h with ⟨⟨a, c, rfl⟩, rfl⟩ | ⟨b, off, c, rfl, _⟩
  · exact ⟨a, c, rfl⟩
  · exact ⟨_, c, rfl⟩
theorem IntsAt.below {w w' : World} {v : Value} {xs : List Int} (h : IntsAt w v xs) (k : Below w.heap.size w w') : IntsAt w' v xs := by
  rcases h with h | ⟨b, off, c, h1, h2, h3, h4⟩
  · exact .inl h
  · exact .inr ⟨b, off, c, h1, Nat.lt_of_lt_of_le h2 k.size, h3, fun j x hj => (k.cell (p := ⟨b, off + j, none⟩) h2).trans (h4 j x hj)⟩
theorem IntsAt.at {w : World} {a : Option Addr} {n c : Nat} {xs : List Int} (h : IntsAt w (.slice a n c) xs) {j : Nat} {x : Int} (hj : xs[j]? = some x) : ∃ b off, a = some ⟨b, off, none⟩ ∧ b < w.heap.size ∧ xs.length ≤ c ∧ w.cell? ⟨b, off + j, none⟩ = some (.int .i64 x) := by
  rcases h with ⟨_, rfl⟩ | ⟨b, off, c', h1, h2, h3, h4⟩
  · cases hj
  · simp only [Value.slice.injEq] at h1
    exact ⟨b, off, h1.1, h2, h1.2.2 ▸ h3, h4 j x hj⟩
/-- A slice of given nodes. -/
def GvsAt (w : World) (v : Value) (gs : List Gv) : Prop :=
  ((∃ a c, v = .slice a 0 c) ∧ gs = []) ∨ ∃ b off c, v = .slice (some ⟨b, off, none⟩) gs.length c ∧ b < w.heap.size ∧ gs.length ≤ c ∧ ∀ j g, gs[j]? = some g → ∃ sv, w.cell? ⟨b, off + j * 5, none⟩ = some (.int .i64 g.au) ∧ w.cell? ⟨b, off + j * 5 + 1, none⟩ = some (.int .i64 g.ct) ∧ w.cell? ⟨b, off + j * 5 + 2, none⟩ = some sv ∧ w.cell? ⟨b, off + j * 5 + 3, none⟩ = some (.int .i64 g.th) ∧ w.cell? ⟨b, off + j * 5 + 4, none⟩ = some (.int .i64 g.sp) ∧ IntsAt w sv g.bh
theorem GvsAt.form {w : World} {v : Value} {gs : List Gv} (h : GvsAt w v gs) : ∃ a c, v = .slice a gs.length c := by
  rcases h with ⟨⟨a, c, rfl⟩, rfl⟩ | ⟨b, off, c, rfl, _⟩
  · exact ⟨a, c, rfl⟩
  · exact ⟨_, c, rfl⟩
theorem GvsAt.at {w : World} {a : Option Addr} {n c : Nat} {gs : List Gv} (h : GvsAt w (.slice a n c) gs) {j : Nat} {g : Gv} (hj : gs[j]? = some g) : ∃ b off sv, a = some ⟨b, off, none⟩ ∧ b < w.heap.size ∧ gs.length ≤ c ∧ w.cell? ⟨b, off + j * 5, none⟩ = some (.int .i64 g.au) ∧ w.cell? ⟨b, off + j * 5 + 1, none⟩ = some (.int .i64 g.ct) ∧ w.cell? ⟨b, off + j * 5 + 2, none⟩ = some sv ∧ w.cell? ⟨b, off + j * 5 + 3, none⟩ = some (.int .i64 g.th) ∧ w.cell? ⟨b, off + j * 5 + 4, none⟩ = some (.int .i64 g.sp) ∧ IntsAt w sv g.bh := by
  rcases h with ⟨_, rfl⟩ | ⟨b, off, c', h1, h2, h3, h4⟩
  · cases hj
  · simp only [Value.slice.injEq] at h1
    obtain ⟨sv, h5⟩ := h4 j g hj
    exact ⟨b, off, sv, h1.1, h2, h1.2.2 ▸ h3, h5⟩
theorem GvsAt.below {w w' : World} {v : Value} {gs : List Gv} (h : GvsAt w v gs) (k : Below w.heap.size w w') : GvsAt w' v gs := by
  rcases h with h | ⟨b, off, c, h1, h2, h3, h4⟩
  · exact .inl h
  · refine .inr ⟨b, off, c, h1, Nat.lt_of_lt_of_le h2 k.size, h3, fun j g hj => ?_⟩
    obtain ⟨sv, e0, e1, e2, e3, e4, e5⟩ := h4 j g hj
    exact ⟨sv, (k.cell (p := ⟨b, _, none⟩) h2).trans e0, (k.cell (p := ⟨b, _, none⟩) h2).trans e1, (k.cell (p := ⟨b, _, none⟩) h2).trans e2, (k.cell (p := ⟨b, _, none⟩) h2).trans e3, (k.cell (p := ⟨b, _, none⟩) h2).trans e4, e5.below k⟩
/-- Two rows of one's own. -/
structure Md (w0 : World) (vo : Value) (O : List ByteArray) (vh : Value) (H : List ByteArray) (w : World) : Prop where
  o : w.ownsRow w0.heap.size 9 1 vo O.length (O.map Value.string)
  h : w.ownsRow w0.heap.size 9 1 vh H.length (H.map Value.string)
  ap : ∀ x, vo.ownBlock = some x → vh.ownBlock ≠ some x
  below : Below w0.heap.size w0 w
variable {w0 w w' : World} {vo vh v' : Value} {O H : List ByteArray} {x : ByteArray}
theorem own_keep {base e : Nat} {v : Value} {k : Nat} {xs : List Value} (h : w.ownsRow base e 1 v k xs) (hb : ∀ g, v.ownBlock = some g → w'.heap[g]? = w.heap[g]?) : w'.ownsRow base e 1 v k xs := by
  refine ⟨h.1, ?_⟩
  rcases h.2 with h | ⟨g, cap, cur, rfl, h2, h3, h4⟩
  · exact .inl h
  · exact .inr ⟨g, cap, cur, rfl, h2, (hb g rfl).trans h3, h4⟩
theorem Md.step (i : Md w0 vo O vh H w) (k : Below w.heap.size w w') : Md w0 vo O vh H w' :=
  ⟨own_keep i.o fun j hj => k.block j (i.o.lt j hj).2, own_keep i.h fun j hj => k.block j (i.h.lt j hj).2, i.ap, i.below.trans (k.mono i.below.size)⟩
theorem Md.addO (i : Md w0 vo O vh H w) (hg : w.grownBy w' vo.ownBlock) (ho : w'.ownsRow w0.heap.size 9 1 v' (O.length + 1) (O.map Value.string ++ [.string x])) (hw : v'.ownBlock = vo.ownBlock ∨ v'.ownBlock = some w.heap.size) : Md w0 v' (O ++ [x]) vh H w' := by
  refine ⟨by rw [List.length_append, List.map_append]; exact ho, own_keep i.h fun j hj => hg.block j (i.h.lt j hj).2 fun e => i.ap j e.symm hj, fun y hy e => ?_, i.below.grown hg i.below.size fun k e => (i.o.lt k e).1⟩
  rcases hw with e1 | e1
  · rw [e1] at hy; exact i.ap y hy e
  · rw [e1] at hy; cases hy; exact Nat.lt_irrefl _ (i.h.lt _ e).2
theorem Md.addH (i : Md w0 vo O vh H w) (hg : w.grownBy w' vh.ownBlock) (ho : w'.ownsRow w0.heap.size 9 1 v' (H.length + 1) (H.map Value.string ++ [.string x])) (hw : v'.ownBlock = vh.ownBlock ∨ v'.ownBlock = some w.heap.size) : Md w0 vo O v' (H ++ [x]) w' := by
  refine ⟨own_keep i.o fun j hj => hg.block j (i.o.lt j hj).2 fun e => i.ap j hj e.symm, by rw [List.length_append, List.map_append]; exact ho, fun y hy e => ?_, i.below.grown hg i.below.size fun k e => (i.h.lt k e).1⟩
  rcases hw with e1 | e1
  · rw [e1] at e; exact i.ap y hy e
  · rw [e1] at e; cases e; exact Nat.lt_irrefl _ (i.o.lt _ hy).2
theorem parTo_yes {hs : List ByteArray} {i k : Nat} {bh : List Int} {b : Int} (h : bh[k]? = some b) (h0 : 0 ≤ (i : Int) - 1 - an b 3) {x : ByteArray} (hx : hs[((i : Int) - 1 - an b 3).toNat]? = some x) : parTo hs i bh (k + 1) = ins (parTo hs i bh k) x := by
  show (match bh[k]? with | some b => if 0 ≤ (i : Int) - 1 - an b 3 then ins (parTo hs i bh k) (hs.getD ((i : Int) - 1 - an b 3).toNat ⟨#[]⟩) else parTo hs i bh k | none => parTo hs i bh k) = _
  rw [h]
  dsimp only
  rw [if_pos h0, List.getD_eq_getElem?_getD, hx]
  rfl
theorem parTo_no {hs : List ByteArray} {i k : Nat} {bh : List Int} {b : Int} (h : bh[k]? = some b) (h0 : ¬ 0 ≤ (i : Int) - 1 - an b 3) : parTo hs i bh (k + 1) = parTo hs i bh k := by
  show (match bh[k]? with | some b => if 0 ≤ (i : Int) - 1 - an b 3 then ins (parTo hs i bh k) (hs.getD ((i : Int) - 1 - an b 3).toNat ⟨#[]⟩) else parTo hs i bh k | none => parTo hs i bh k) = _
  rw [h]
  dsimp only
  rw [if_neg h0]
/-- While a node is made: its block nb, its given one's block gb, its parents at pv. -/
structure Mx (T5 T12 : TypeId) (w0 : World) (vo : Value) (O : List ByteArray) (vh : Value) (H : List ByteArray) (gb : Nat) (gc : Array Value) (nb : Nat) (nc : Array Value) (pv : Value) (ps : List ByteArray) (w : World) : Prop where
  md : Md w0 vo O vh H w
  gr : w.heap[gb]? = some (.cells gc T5 (0, 0))
  nr : w.heap[nb]? = some (.cells nc T12 (0, 0))
  hs : Hs w pv ps
  lo : w0.heap.size ≤ nb
  ne : gb ≠ nb
  t12 : T12 ≠ 9
  t5 : T5 ≠ 9
  po : ∀ x, pv.ownBlock = some x → x ≠ nb ∧ vo.ownBlock ≠ some x ∧ vh.ownBlock ≠ some x
theorem row9 {base e k n g : Nat} {v : Value} {xs : List Value} (h : w.ownsRow base e k v n xs) (hg : v.ownBlock = some g) : ∃ cs, w.heap[g]? = some (.cells cs e (0, 0)) := by
  obtain ⟨_, ⟨rfl, _⟩ | ⟨g', cap, cur, rfl, _, h3, _⟩⟩ := h
  · cases hg
  · cases hg
    exact ⟨_, h3⟩
theorem Hs.kept {pv : Value} {ps : List ByteArray} (h : Hs w pv ps) (hs : w.heap.size ≤ w'.heap.size) (hb : ∀ a, pv.ownBlock = some a → a < w.heap.size → w'.heap[a]? = w.heap[a]?) : Hs w' pv ps := by
  rcases h with h | ⟨b, off, c, h1, h2, h3, h4⟩
  · exact .inl h
  · refine .inr ⟨b, off, c, h1, Nat.lt_of_lt_of_le h2 hs, h3, fun j s hj => ?_⟩
    have e := hb b (by rw [h1]; rfl) h2
    have := h4 j s hj
    unfold World.cell? at this ⊢
    rw [← this]
    simp only [e]
variable {T5 T12 : TypeId} {gb nb : Nat} {gc nc : Array Value} {pv : Value} {ps : List ByteArray}
theorem Mx.step (i : Mx T5 T12 w0 vo O vh H gb gc nb nc pv ps w) (k : Below w.heap.size w w') : Mx T5 T12 w0 vo O vh H gb gc nb nc pv ps w' :=
  ⟨i.md.step k, (k.block _ (Array.getElem?_eq_some_iff.1 i.gr).1).trans i.gr, (k.block _ (Array.getElem?_eq_some_iff.1 i.nr).1).trans i.nr, i.hs.below k, i.lo, i.ne, i.t12, i.t5, i.po⟩
theorem Mx.rows (i : Mx T5 T12 w0 vo O vh H gb gc nb nc pv ps w) : vo.ownBlock ≠ some nb ∧ vh.ownBlock ≠ some nb ∧ vo.ownBlock ≠ some gb ∧ vh.ownBlock ≠ some gb := by
  refine ⟨fun e => ?_, fun e => ?_, fun e => ?_, fun e => ?_⟩
  · obtain ⟨cs, e⟩ := row9 i.md.o e; rw [i.nr] at e; cases e; exact i.t12 rfl
  · obtain ⟨cs, e⟩ := row9 i.md.h e; rw [i.nr] at e; cases e; exact i.t12 rfl
  · obtain ⟨cs, e⟩ := row9 i.md.o e; rw [i.gr] at e; cases e; exact i.t5 rfl
  · obtain ⟨cs, e⟩ := row9 i.md.h e; rw [i.gr] at e; cases e; exact i.t5 rfl
/-- A cell of the node is stored. -/
theorem Mx.set (i : Mx T5 T12 w0 vo O vh H gb gc nb nc pv ps w) (j : Nat) (u : Value) (nc' : Array Value) (e : nc.setIfInBounds j u = nc') : Mx T5 T12 w0 vo O vh H gb gc nb nc' pv ps (w.setCell ⟨nb, j, none⟩ u) := by
  have hr := i.rows
  have hb : ∀ x, x ≠ nb → (w.setCell ⟨nb, j, none⟩ u).heap[x]? = w.heap[x]? := fun x hx => Below.heap_setCell w _ u x hx
  refine ⟨⟨own_keep i.md.o fun g hg => hb g fun e => hr.1 (e ▸ hg), own_keep i.md.h fun g hg => hb g fun e => hr.2.1 (e ▸ hg), i.md.ap, i.md.below.setCell i.lo u⟩, (hb _ i.ne).trans i.gr, ?_, i.hs.kept (by simp) fun a ha _ => hb a (i.po a ha).1, i.lo, i.ne, i.t12, i.t5, i.po⟩
  rw [heap_setCell_same _ _ _ _ _ _ i.nr, ← e]
/-- Other parents. -/
theorem Mx.par {pv' : Value} {ps' : List ByteArray} (i : Mx T5 T12 w0 vo O vh H gb gc nb nc pv ps w) (h : Hs w pv' ps') (hp : ∀ x, pv'.ownBlock = some x → x ≠ nb ∧ vo.ownBlock ≠ some x ∧ vh.ownBlock ≠ some x) : Mx T5 T12 w0 vo O vh H gb gc nb nc pv' ps' w :=
  ⟨i.md, i.gr, i.nr, h, i.lo, i.ne, i.t12, i.t5, hp⟩
theorem Mx.addH (i : Mx T5 T12 w0 vo O vh H gb gc nb nc pv ps w) (hg : w.grownBy w' vh.ownBlock) (ho : w'.ownsRow w0.heap.size 9 1 v' (H.length + 1) (H.map Value.string ++ [.string x])) (hw : v'.ownBlock = vh.ownBlock ∨ v'.ownBlock = some w.heap.size) : Mx T5 T12 w0 vo O v' (H ++ [x]) gb gc nb nc pv ps w' := by
  have hr := i.rows
  refine ⟨i.md.addH hg ho hw, (hg.block _ (Array.getElem?_eq_some_iff.1 i.gr).1 fun e => hr.2.2.2 e.symm).trans i.gr, (hg.block _ (Array.getElem?_eq_some_iff.1 i.nr).1 fun e => hr.2.1 e.symm).trans i.nr, i.hs.kept hg.size fun a ha hl => hg.block a hl fun e => (i.po a ha).2.2 e.symm, i.lo, i.ne, i.t12, i.t5, fun y hy => ⟨(i.po y hy).1, (i.po y hy).2.1, fun e => ?_⟩⟩
  rcases hw with e1 | e1
  · rw [e1] at e; exact (i.po y hy).2.2 e
  · rw [e1] at e
    cases e
    rcases i.hs with ⟨e2, _⟩ | ⟨b, off, c, e2, h2, _⟩
    · rw [e2] at hy; cases hy
    · rw [e2] at hy; cases hy; exact Nat.lt_irrefl _ h2
end Go.Dag
namespace Go.Proofs.YtkbboddibgfjbaaGreatDoor
open Go.RowKit Go.Sort Go.Wire Go.Stamp Go.Opn Go.Nod Go.MapFun Go.Dag Go.AppendAt
attribute [local go_sem] Oper.semAt_some
theorem infoRN : (Tryz.prog.info? 51).map (·.size) = some 12 := by kernel_rfl
theorem gNd_body (hs : List ByteArray) (i : Nat) (g : Gv) (t : ByteArray) : (gNd hs i g t).bodyB = (gNd hs i g ⟨#[]⟩).bodyB := rfl
set_option maxRecDepth 100000 in
set_option maxHeartbeats 8000000 in
theorem lmade_any (v : Value) (gs : List Gv) (w : World) (hG : GvsAt w v gs) (hl : gs.length ≤ maxLen) :
    Calls Tryz.prog 7 #[v] w fun e w' => ∃ v', e = .returned v' ∧ w'.ownsRow w.heap.size 9 1 v' (made gs).length ((made gs).map Value.string) ∧ Below w.heap.size w w' := by
  obtain ⟨i9, hi9, hz0, hz1, hz2⟩ := info_parts lrInfo9
  obtain ⟨a, c, rfl⟩ := hG.form
  have HG := hide hG
  clear hG
  have hl' : (gs.length : Int) ≤ 9223372036854775807 := by unfold maxLen at hl; omega
  go_enter Tryz.func7, Tryz.ntmps7
  go_wp2_with fail
  go_loopw [3, 4, 5] (fun vo vh vi wr => ∃ i : Nat, i ≤ min gs.length 24 ∧ vi = .int .i64 i ∧ Hid (Md w vo (mdTo gs i).1 vh (mdTo gs i).2 wr)) (fun _ _ vi _ => 100 - (intOf vi).toNat)
  case atStart =>
    refine ⟨0, Nat.zero_le _, rfl, ⟨rfl, .inr ⟨w.heap.size, 0, #[], rfl, Nat.le_refl _, heap_alloc2_old w _ _, Nat.le_refl _, by decide, rfl, rfl⟩⟩, ⟨rfl, .inr ⟨w.heap.size + 1, 0, #[], rfl, Nat.le_succ _, ?_, Nat.le_refl _, by decide, rfl, rfl⟩⟩, fun x h1 h2 => ?_, ((Below.refl _ w).alloc (Nat.le_refl _) _).alloc (by simp) _⟩
    · have := heap_alloc_new (w.alloc (.cells #[] 9)) (.cells #[] 9)
      simpa using this
    · cases h1
      simp [Value.ownBlock] at h2
  case round =>
    obtain ⟨i, hi, rfl, M⟩ := hrel
    by_cases hlt : i < min gs.length 24
    · have hlt1 : (i : Int) < gs.length := by omega
      have hlt2 : (i : Int) < 24 := by omega
      obtain ⟨g, hg⟩ : ∃ g, gs[i]? = some g := ⟨_, List.getElem?_eq_getElem (by omega)⟩
      obtain ⟨b, off, sv, ha, hbl, hcap, c0, c1, c2, c3, c4, hI⟩ := (HG.out.below M.out.below).at hg
      subst ha
      have hcap' : (gs.length : Int) ≤ c := by omega
      obtain ⟨sa, sc, rfl⟩ := hI.form
      obtain ⟨A, hA⟩ : ∃ A, A = an g.au 3 := ⟨_, rfl⟩
      have hA1 : bits .and .i64 g.au 3 = A := hA.symm
      have HAq := hide hA
      clear hA
      go_wp2_with fail
      obtain ⟨hmo, hmh, hm32⟩ := mdTo_length gs i (by omega)
      have k0 := ((Below.refl wr.heap.size wr).alloc (Nat.le_refl _) (.cells #[.int .i64 g.au, .int .i64 g.ct, .slice sa g.bh.length sc, .int .i64 g.th, .int .i64 g.sp] 68)).alloc (by simp) (.cells ((Nd.mk A [] Ob.zero ⟨#[]⟩).cs (.slice none 0 0)) 51)
      have X0 : Hid (Mx 68 51 w u3 (mdTo gs i).1 u4 (mdTo gs i).2 wr.heap.size #[.int .i64 g.au, .int .i64 g.ct, .slice sa g.bh.length sc, .int .i64 g.th, .int .i64 g.sp] (wr.heap.size + 1) ((Nd.mk A [] Ob.zero ⟨#[]⟩).cs (.slice none 0 0)) (.slice none 0 0) [] ((wr.alloc (.cells #[.int .i64 g.au, .int .i64 g.ct, .slice sa g.bh.length sc, .int .i64 g.th, .int .i64 g.sp] 68)).alloc (.cells ((Nd.mk A [] Ob.zero ⟨#[]⟩).cs (.slice none 0 0)) 51))) := by
        refine ⟨M.out.step k0, ?_, ?_, .inl ⟨rfl, rfl⟩, Nat.le_trans M.out.below.size (Nat.le_succ _), by omega, by decide, by decide, fun x hx => by cases hx⟩
        · exact heap_alloc2_old wr _ _
        · have := heap_alloc_new (wr.alloc (.cells #[.int .i64 g.au, .int .i64 g.ct, .slice sa g.bh.length sc, .int .i64 g.th, .int .i64 g.sp] 68)) (.cells ((Nd.mk A [] Ob.zero ⟨#[]⟩).cs (.slice none 0 0)) 51)
          simpa using this
      have HIn := hide (fun w' (k : Below wr.heap.size wr w') => hI.below k)
      have HK0 := hide k0
      have HMd := hide (And.intro hmo (And.intro hmh hm32))
      obtain ⟨gb, hgb⟩ : ∃ gb, gb = wr.heap.size := ⟨_, rfl⟩
      rw [← hgb] at X0 ⊢
      have HGb := hide hgb
      clear k0 c0 c1 c2 c3 c4 hI hgb hmo hmh hm32 M
      go_loopw [9] (fun vk wx => ∃ k : Nat, k ≤ min g.bh.length 3 ∧ vk = .int .i64 k ∧ Hid (∃ pv, Mx 68 51 w u3 (mdTo gs i).1 u4 (mdTo gs i).2 gb #[.int .i64 g.au, .int .i64 g.ct, .slice sa g.bh.length sc, .int .i64 g.th, .int .i64 g.sp] (gb + 1) ((Nd.mk A [] Ob.zero ⟨#[]⟩).cs pv) pv (parTo (mdTo gs i).2 i g.bh k) wx ∧ Below wr.heap.size wr wx)) (fun vk _ => 100 - (intOf vk).toNat)
      case atStart => exact ⟨0, Nat.zero_le _, rfl, _, X0.out, HK0.out⟩
      case round =>
        obtain ⟨k, hk, rfl, HX⟩ := hrel
        obtain ⟨pv, hX, hbw⟩ := HX.out
        have X := hide (And.intro hX hbw)
        clear HX X0 hX hbw
        by_cases hkl : k < min g.bh.length 3
        · have hk1 : (k : Int) < g.bh.length := by omega
          have hk2 : (k : Int) < 3 := by omega
          obtain ⟨bk, hbk⟩ : ∃ bk, g.bh[k]? = some bk := ⟨_, List.getElem?_eq_getElem (by omega)⟩
          obtain ⟨b2, off2, hsa, hbl2, hcap2, hcb⟩ := (HIn.out wr X.out.2).at hbk
          subst hsa
          have hcap3 : (g.bh.length : Int) ≤ sc := by omega
          have d2 : wr.cell? ⟨gb, 2, none⟩ = some (.slice (some ⟨b2, off2, none⟩) g.bh.length sc) := by rw [cell_of_row _ _ _ _ _ _ X.out.1.gr]; rfl
          obtain ⟨B, hB⟩ : ∃ B, B = an bk 3 := ⟨_, rfl⟩
          have hB1 : bits .and .i64 bk 3 = B := hB.symm
          have hBr := an_le bk 3 (by decide)
          rw [← hB] at hBr
          have HBq := hide hB
          clear hB
          have hw1 : IntKind.i64.wrap ((i : Int) - 1) = i - 1 := Sha.wrap_i64 _ (by omega) (by omega)
          have hw2 : IntKind.i64.wrap ((i : Int) - 1 - B) = i - 1 - B := Sha.wrap_i64 _ (by omega) (by omega)
          by_cases h0 : 0 ≤ (i : Int) - 1 - B
          · obtain ⟨AT, hAT⟩ : ∃ AT : Nat, (i : Int) - 1 - B = AT := ⟨((i : Int) - 1 - B).toNat, by omega⟩
            have hATi : AT < i := by omega
            have hlenH := HMd.out.2.1
            obtain ⟨x, hx⟩ : ∃ x, (mdTo gs i).2[AT]? = some x := ⟨_, List.getElem?_eq_getElem (by omega)⟩
            have HPy := hide (parTo_yes (hs := (mdTo gs i).2) (i := i) hbk (by rw [← HBq.out]; exact h0) (x := x) (by rw [← HBq.out, hAT]; exact hx))
            obtain ⟨hb, hcp, hu4, hcH⟩ : ∃ hb hcp, u4 = .slice (some ⟨hb, 0, none⟩) i hcp ∧ Hid (i ≤ hcp ∧ hb < wr.heap.size ∧ wr.cell? ⟨hb, AT, none⟩ = some (.string x)) := by
              have ho := X.out.1.md.h
              rw [hlenH] at ho
              rcases ho.2 with ⟨_, e⟩ | ⟨g4, cap4, cur4, e, h2, h3, h4, _⟩
              · omega
              · have := ho.cells (g := g4) (by rw [e]; rfl) AT (.string x) (by rw [List.getElem?_map, hx]; rfl)
                rw [add_at, Nat.zero_add] at this
                exact ⟨g4, cap4, e, h4, (Array.getElem?_eq_some_iff.1 h3).1, this⟩
            have hh1 := hcH.out.1
            have hh2 : (i : Int) ≤ hcp := by omega
            have hh3 : (AT : Int) < i := by omega
            subst hu4
            clear h0
            rw [hAT] at hw2
            go_upto_region 13 with fail
            have HLr := hide (fun w' (kk : Below wr.heap.size wr w') => lrising_any pv (parTo (mdTo gs i).2 i g.bh k) x w' (X.out.1.hs.below kk) (Nat.le_trans (parTo_length _ _ _ _) (by omega)))
            refine RegionOwn.regionK 8 105 9 1 (fun j => match j with
              | 0 => RegionOwn.val (.pointer (some ⟨gb + 1, 1, none⟩))
              | 1 => RegionOwn.val pv
              | 2 => RegionOwn.val (.slice (some ⟨hb, 0, none⟩) i hcp)
              | 3 => RegionOwn.val (.int .i64 AT)
              | 4 => RegionOwn.val (.pointer (some ⟨hb, AT, none⟩))
              | 5 => RegionOwn.val (.string x)
              | 6 => RegionOwn.fact (fun z v => Hs z v (ins (parTo (mdTo gs i).2 i g.bh k) x) ∧ (v = pv ∨ ∀ y, v.ownBlock = some y → wr.heap.size ≤ y))
              | 7 => RegionOwn.val (.pointer (some ⟨gb + 1, 1, none⟩))
              | _ => RegionOwn.val undef) (fun _ => none) ?_ (by kernel_rfl) rfl (by kernel_rfl) ?_ ?_ ?_
            · intro j hj
              match j, hj with
              | 0, _ | 1, _ | 2, _ | 3, _ | 4, _ | 5, _ | 6, _ | 7, _ => rfl
              | j + 8, h => exact absurd h (by omega)
            · intro j p hj h
              match j, hj, h with
              | 0, _, h | 1, _, h | 2, _, h | 3, _, h | 4, _, h | 5, _, h | 7, _, h => cases h
              | 6, _, h =>
                cases h
                exact ⟨fun _ _ => rfl, fun z y v hp kb => ⟨hp.1.below kb, hp.2⟩⟩
              | j + 8, h, _ => exact absurd h (by omega)
            · intro j hj y z hfr hbx hD _ K hK
              have e4 : RegionOwn.T y 4 = .slice (some ⟨hb, 0, none⟩) i hcp := hfr.at (by kernel_rfl) rfl
              have e8 : RegionOwn.T y 8 = .pointer (some ⟨gb + 1, 0, none⟩) := hfr.at (by kernel_rfl) rfl
              have e10 : RegionOwn.T y 10 = .int .i64 AT := hfr.at (by kernel_rfl) rfl
              match j, hj with
              | 0, _ =>
                refine RegionOwn.quiet rfl rfl hK rfl rfl ?_
                clear hK hD hfr
                unfold RegionOwn.T at e8
                go_simp
              | 1, _ =>
                refine RegionOwn.quiet rfl rfl hK rfl rfl ?_
                have q : RegionOwn.T y 54 = .pointer (some ⟨gb + 1, 1, none⟩) := hD 0 54 (by decide) rfl (by kernel_rfl) (.inl rfl)
                have c1 : z.cell? ⟨gb + 1, 1, none⟩ = some pv := (cells12 (X.out.1.step hbx).nr).2.1
                clear hK hD hfr
                unfold RegionOwn.T at q
                go_simp
              | 2, _ =>
                refine RegionOwn.quiet rfl rfl hK rfl rfl ?_
                clear hK hD hfr
                unfold RegionOwn.T at e4
                go_simp
              | 3, _ =>
                refine RegionOwn.quiet rfl rfl hK rfl rfl ?_
                clear hK hD hfr
                unfold RegionOwn.T at e10
                go_simp
              | 4, _ =>
                refine RegionOwn.quiet rfl rfl hK rfl rfl ?_
                have q : RegionOwn.T y 56 = .slice (some ⟨hb, 0, none⟩) i hcp := hD 2 56 (by decide) rfl (by kernel_rfl) (.inl rfl)
                have q1 : RegionOwn.T y 57 = .int .i64 AT := hD 3 57 (by decide) rfl (by kernel_rfl) (.inl rfl)
                clear hK hD hfr e4 e8 e10
                unfold RegionOwn.T at q q1
                go_simp
              | 5, _ =>
                refine RegionOwn.quiet rfl rfl hK rfl rfl ?_
                have q : RegionOwn.T y 58 = .pointer (some ⟨hb, AT, none⟩) := hD 4 58 (by decide) rfl (by kernel_rfl) (.inl rfl)
                have c1 : z.cell? ⟨hb, AT, none⟩ = some (.string x) := (hbx.cell (p := ⟨hb, AT, none⟩) hcH.out.2.1).trans hcH.out.2.2
                clear hK hD hfr
                unfold RegionOwn.T at q
                go_simp
              | 6, _ =>
                have q : RegionOwn.T y 55 = pv := hD 1 55 (by decide) rfl (by kernel_rfl) (.inl rfl)
                have q1 : RegionOwn.T y 59 = .string x := hD 5 59 (by decide) rfl (by kernel_rfl) (.inl rfl)
                refine RegionOwn.called (f := 28) (args := #[pv, .string x]) rfl rfl hK rfl ?_ ((HLr.out z hbx).mono fun e z2 ⟨v2, h1, h2, h3, h4⟩ => ⟨v2, h1, h3, h2, ?_⟩)
                · clear hK hD hfr
                  unfold RegionOwn.T at q q1
                  have hcl := Tryz.call28
                  go_simp
                · rcases h4 with h4 | h4
                  · exact .inl h4
                  · exact .inr fun y2 hy => Nat.le_trans hbx.size (h4 y2 hy)
              | 7, _ =>
                refine RegionOwn.quiet rfl rfl hK rfl rfl ?_
                clear hK hD hfr
                unfold RegionOwn.T at e8
                go_simp
              | j + 8, h => exact absurd h (by omega)
            · intro y z hfr hbx hD
              have q6 : Hs z (RegionOwn.T y 60) (ins (parTo (mdTo gs i).2 i g.bh k) x) ∧ (RegionOwn.T y 60 = pv ∨ ∀ y2, (RegionOwn.T y 60).ownBlock = some y2 → wr.heap.size ≤ y2) := hD 6 60 (by decide) rfl (fun i hi e => by cases e)
              have q7 : RegionOwn.T y 61 = .pointer (some ⟨gb + 1, 1, none⟩) := hD 7 61 (by decide) rfl (fun i hi e => by cases e)
              have hys := hfr.sets [54, 55, 56, 57, 58, 59, 60, 61] (by kernel_rfl)
              simp only [RegionOwn.setAll, List.foldl_cons, List.foldl_nil] at hys
              have X1 := hide (And.intro (X.out.1.step hbx) (X.out.2.trans (hbx.mono X.out.2.size)))
              clear hD hfr
              generalize RegionOwn.T y 54 = u54 at *
              generalize RegionOwn.T y 55 = u55 at *
              generalize RegionOwn.T y 56 = u56 at *
              generalize RegionOwn.T y 57 = u57 at *
              generalize RegionOwn.T y 58 = u58 at *
              generalize RegionOwn.T y 59 = u59 at *
              generalize RegionOwn.T y 60 = u60 at *
              generalize RegionOwn.T y 61 = u61 at *
              subst hys q7
              simp only [List.drop_succ_cons, List.drop_zero, List.setIfInBounds_toArray, List.set_cons_succ, List.set_cons_zero]
              have hnl : gb + 1 < wr.heap.size := (Array.getElem?_eq_some_iff.1 X.out.1.nr).1
              have X2 := hide ((X1.out.1.par q6.1 (fun y2 hy => by
                rcases q6.2 with e | e
                · rw [e] at hy; exact X1.out.1.po y2 hy
                · have h1 := e y2 hy
                  refine ⟨by omega, fun e2 => ?_, fun e2 => ?_⟩
                  · have := (X.out.1.md.o.lt y2 e2).2; omega
                  · have := (X.out.1.md.h.lt y2 e2).2; omega)).set 1 u60 ((Nd.mk A [] Ob.zero ⟨#[]⟩).cs u60) rfl)
              have X3 := hide (X1.out.2.setCell (p := ⟨gb + 1, 1, none⟩) (by have := HGb.out; show _ ≤ gb + 1; omega) u60)
              have c1 : z.cell? ⟨gb + 1, 1, none⟩ = some pv := (cells12 X1.out.1.nr).2.1
              have f1 : z.frozen? ⟨gb + 1, 1, none⟩ = false := frozen_of_row _ _ _ _ _ X1.out.1.nr
              obtain ⟨ya, yc, hyv⟩ := q6.1.reads.form
              clear q6 X1 hbx HLr hnl
              subst hyv
              go_wp2_with fail
              go_roundw
              case rel => exact ⟨k + 1, by omega, by go_num, _, by rw [HPy.out]; exact X2.out, X3.out⟩
              case measure => simp [intOf]; omega
          · have HPn := hide (parTo_no (hs := (mdTo gs i).2) (i := i) hbk (by rw [← HBq.out]; exact h0))
            go_wp2_with fail
            go_roundw
            case rel => exact ⟨k + 1, by omega, by go_num, pv, by rw [HPn.out]; exact X.out.1, X.out.2⟩
            case measure => simp [intOf]; omega
        · have hke : k = min g.bh.length 3 := by omega
          have hcond : (k : Int) < g.bh.length → ¬ (k : Int) < 3 := by omega
          have d2 : wr.cell? ⟨gb, 2, none⟩ = some (.slice sa g.bh.length sc) := by rw [cell_of_row _ _ _ _ _ _ X.out.1.gr]; rfl
          have XP : Hid (parTo (mdTo gs i).2 i g.bh k = pars (mdTo gs i).2 i g.bh) := by show _ = _; rw [hke]; rfl
          clear hke hk hkl
          rw [XP.out] at X
          obtain ⟨C, hC⟩ : ∃ C, C = an g.ct 63 := ⟨_, rfl⟩
          have hC1 : bits .and .i64 g.ct 63 = C := hC.symm
          have hCr := an_le g.ct 63 (by decide)
          obtain ⟨Th, hTh⟩ : ∃ Th, Th = an g.th 7 := ⟨_, rfl⟩
          have hT1 : bits .and .i64 g.th 7 = Th := hTh.symm
          have hTr := an_le g.th 7 (by decide)
          rw [← hC] at hCr
          rw [← hTh] at hTr
          have HCT := hide (And.intro hC hTh)
          clear hC hTh
          have hC2 : IntKind.u64.wrap C = C := by rw [wrap_u64]; omega
          have hC3 : IntKind.u64.wrap (C + 1) = C + 1 := by rw [wrap_u64]; omega
          have hT2 : IntKind.i64.wrap (16 + Th) = 16 + Th := Sha.wrap_i64 _ (by omega) (by omega)
          have hT3 : IntKind.u64.wrap (16 + Th) = 16 + Th := by rw [wrap_u64]; omega
          have hgl : gb < wr.heap.size := (Array.getElem?_eq_some_iff.1 X.out.1.gr).1
          have hnl : gb + 1 < wr.heap.size := (Array.getElem?_eq_some_iff.1 X.out.1.nr).1
          have d1 : wr.cell? ⟨gb, 1, none⟩ = some (.int .i64 g.ct) := by rw [cell_of_row _ _ _ _ _ _ X.out.1.gr]; rfl
          have d3 : wr.cell? ⟨gb, 3, none⟩ = some (.int .i64 g.th) := by rw [cell_of_row _ _ _ _ _ _ X.out.1.gr]; rfl
          obtain ⟨n0, n1, n2, n3, n4, n5, n6, n7, n8, n9, n10, n11⟩ := cells12 X.out.1.nr
          have f2 : wr.frozen? ⟨gb + 1, 2, none⟩ = false := frozen_of_row _ _ _ _ _ X.out.1.nr
          have f3 : wr.frozen? ⟨gb + 1, 3, none⟩ = false := frozen_of_row _ _ _ _ _ X.out.1.nr
          have f4 : wr.frozen? ⟨gb + 1, 4, none⟩ = false := frozen_of_row _ _ _ _ _ X.out.1.nr
          have f5 : wr.frozen? ⟨gb + 1, 5, none⟩ = false := frozen_of_row _ _ _ _ _ X.out.1.nr
          dsimp only at n2 n3 n4 n5
          clear n0 n1 n6 n7 n8 n9 n10 n11
          have hcut : ∀ q : Prop, ((k : Int) < g.bh.length → q) → (¬ (k : Int) < g.bh.length → q) → q := fun q h1 h2 => by by_cases h : (k : Int) < g.bh.length; exact h1 h; exact h2 h
          by_cases hk1 : (k : Int) < g.bh.length
          · have hk2 := hcond hk1
            go_upto_region 14 with fail
            clear hcut hcond hk1 hk2 d2
            go_region
            have X4 := hide ((((X.out.1.set 2 (.int .i64 3) _ rfl).set 3 (.int .u64 (C + 1)) _ rfl).set 4 (.int .i64 A) _ rfl).set 5 (.int .u64 (16 + Th)) ((gNd (mdTo gs i).2 i g ⟨#[]⟩).cs pv) (by rw [HAq.out, HCT.out.1, HCT.out.2]; rfl))
            clear d1 d3 n2 n3 n4 n5 f2 f3 f4 f5 hgl hnl hC1 hC2 hC3 hT1 hT2 hT3 hCr hTr
            generalize (((wr.setCell ⟨gb + 1, 2, none⟩ (.int .i64 3)).setCell ⟨gb + 1, 3, none⟩ (.int .u64 (C + 1))).setCell ⟨gb + 1, 4, none⟩ (.int .i64 A)).setCell ⟨gb + 1, 5, none⟩ (.int .u64 (16 + Th)) = w40 at *
            replace X4 := hide (X4.out.step (w' := World.drew w40) ⟨rfl, rfl, rfl, Nat.le_refl _, fun _ _ => rfl⟩)
            generalize World.drew w40 = w4 at *
            have hsg := gNd_sig (hs := (mdTo gs i).2) (i := i) g ⟨#[]⟩ HMd.out.2.2 HMd.out.2.1
            have HHs := hide (rnodeHash_any (gNd (mdTo gs i).2 i g ⟨#[]⟩) pv w4 X4.out.hs.reads hsg)
            obtain ⟨Hh, hHh⟩ : ∃ Hh, Hh = gHash (mdTo gs i).2 i g := ⟨_, rfl⟩
            have HHh := hide hHh
            replace HHs : Hid (Calls Tryz.prog 27 #[(gNd (mdTo gs i).2 i g ⟨#[]⟩).v pv] w4 fun e w' => e = .returned (.string Hh) ∧ Below w4.heap.size w4 w') := by rw [hHh]; exact HHs
            clear hHh
            unfold Nd.v at HHs
            go_wp2_with (first
              | (refine wpList_load_row rfl 51 _ rfl _ rfl _ _ _ _ X4.out.nr Tryz.underlying51 rfl infoRN ?_)
              | (go_at_call 27; refine HHs.out.mono ?_; rintro e w5 ⟨rfl, k5⟩; have X5 := hide (X4.out.step k5); clear k5)
              | (at_builtin; refine wpList_append_at rfl _ _ 24 rfl w.heap.size 9 i9 (.string ⟨#[]⟩) 16 Tryz.underlying24 hi9 hz0 hz1 hz2 rfl _ _ _ rfl (X5.out.md.h.alloc _) ⟨w5.heap.size, 0, none⟩ 1 1 [.string Hh] rfl rfl (cell_one_new _ _ _) ?a2 ?a3 ?a4 (Nat.le_trans X5.out.md.below.size (by simp)) ?_))
            case a2 => first | rfl | (intro u hu; simp at hu; subst hu; rfl)
            case a3 => have := HMd.out.2.1; unfold maxLen; omega
            case a4 => have := HMd.out.2.1; omega
            intro v6 w6 hown hgrow hwh
            have X6 := hide ((X5.out.step ((Below.refl _ w5).alloc (Nat.le_refl _) (.cells #[.string Hh] 9))).addH hgrow hown (by simpa using hwh))
            obtain ⟨za, zc, hzv⟩ := own_slice hown
            clear hown hgrow hwh X5 X4 HHs X
            subst hzv
            have HTg := hide (rnodeTag_any seedB (gNd (mdTo gs i).2 i g ⟨#[]⟩) pv w6 (by decide) X6.out.hs.reads hsg)
            obtain ⟨T0, hT0⟩ : ∃ T0, T0 = tagOf (Mac.keyOf seedB (an g.au 3).toNat) Hh := ⟨_, rfl⟩
            have HT0 := hide hT0
            replace HTg : Hid (Calls Tryz.prog 16 #[.string ⟨#[115, 101, 101, 100]⟩, (gNd (mdTo gs i).2 i g ⟨#[]⟩).v pv] w6 fun e w' => e = .returned (.string T0) ∧ Below w6.heap.size w6 w') := by rw [hT0, HHh.out]; exact HTg
            clear hT0
            unfold Nd.v at HTg
            go_upto_region 17 with (first
              | (refine wpList_load_row rfl 51 _ rfl _ rfl _ _ _ _ X6.out.nr Tryz.underlying51 rfl infoRN ?_)
              | (go_at_call 16; refine HTg.out.mono ?_; rintro e w7 ⟨rfl, k7⟩; have X7 := hide (X6.out.step k7); clear k7; have c11 := (cells12 X7.out.nr).2.2.2.2.2.2.2.2.2.2.2; have f11 : w7.frozen? ⟨gb + 1, 11, none⟩ = false := frozen_of_row _ _ _ _ _ X7.out.nr))
            have X8 := hide (X7.out.set 11 (.string T0) ((gNd (mdTo gs i).2 i g T0).cs pv) rfl)
            clear X7 X6 HTg c11 f11
            generalize w7.setCell ⟨gb + 1, 11, none⟩ (.string T0) = w8 at *
            have d4 : w8.cell? ⟨gb, 4, none⟩ = some (.int .i64 g.sp) := by rw [cell_of_row _ _ _ _ _ _ X8.out.gr]; rfl
            have HTz : Hid (T0.size = 32) := by show _ = _; rw [HT0.out]; exact tagOf_size _ _
            obtain ⟨S, hS⟩ : ∃ S, S = an g.sp 7 := ⟨_, rfl⟩
            have hS1 : bits .and .i64 g.sp 7 = S := hS.symm
            have HS := hide hS
            clear hS
            by_cases hsp : S = 1
            · have hG : gTag (mdTo gs i).2 i g = badTag := by unfold gTag; rw [if_pos (by rw [← HS.out]; exact hsp)]
              have HGt := hide hG
              clear hG
              subst hsp
              have c11 : w8.cell? ⟨gb + 1, 11, none⟩ = some (.string T0) := (cells12 X8.out.nr).2.2.2.2.2.2.2.2.2.2.2
              have f11 : w8.frozen? ⟨gb + 1, 11, none⟩ = false := frozen_of_row _ _ _ _ _ X8.out.nr
              have X8b := hide (X8.out.set 11 (.string badTag) ((gNd (mdTo gs i).2 i g badTag).cs pv) rfl)
              go_upto_region 19 with fail
              clear c11 f11 d4 hS1
              have hw8b : w8.setCell ⟨gb + 1, 11, none⟩ (.string badTag) = w8.setCell ⟨gb + 1, 11, none⟩ (.string ⟨#[49, 50, 51, 52, 53, 54, 55, 56, 57, 48, 49, 50, 51, 52, 53, 54, 55, 56, 57, 48, 49, 50, 51, 52, 53, 54, 55, 56, 57, 48, 49, 50]⟩) := rfl
              rw [hw8b] at X8b
              clear hw8b
              generalize w8.setCell ⟨gb + 1, 11, none⟩ (.string ⟨#[49, 50, 51, 52, 53, 54, 55, 56, 57, 48, 49, 50, 51, 52, 53, 54, 55, 56, 57, 48, 49, 50, 51, 52, 53, 54, 55, 56, 57, 48, 49, 50]⟩) = w8b at *
              have hsT := gNd_sig (hs := (mdTo gs i).2) (i := i) g badTag HMd.out.2.2 HMd.out.2.1
              have HBd := hide (fun w' (kk : Below w8b.heap.size w8b w') => rbody_any (gNd (mdTo gs i).2 i g badTag) pv w' (X8b.out.step kk).hs.reads hsT)
              unfold Nd.v at HBd
              have hbsz := hsT.size
              have HOut : Hid ((gNd (mdTo gs i).2 i g badTag).bodyB ++ badTag = gOut (mdTo gs i).2 i g) := by
                show _ = _
                rw [show gOut (mdTo gs i).2 i g = (gNd (mdTo gs i).2 i g badTag).bytesB from by unfold gOut; rw [HGt.out]]
                exact bytesB_eq _
              obtain ⟨BB, hBB⟩ : ∃ BB, BB = (gNd (mdTo gs i).2 i g badTag).bodyB := ⟨_, rfl⟩
              rw [← hBB] at HBd hbsz HOut
              have hts : (badTag : ByteArray).size = 32 := rfl
              have c11 := cell_regrown (show w8b.cell? ⟨gb + 1, 11, none⟩ = some (.string badTag) from (cells12 X8b.out.nr).2.2.2.2.2.2.2.2.2.2.2)
              have hsum : BB.size + badTag.size ≤ 1000 := by omega
              have hrow := hide X8b.out.nr
              clear hBB
              refine RegionOwn.regionK 7 105 9 1 (fun j => match j with
                | 0 => RegionOwn.val u3
                | 1 => RegionOwn.val (.agg ((gNd (mdTo gs i).2 i g badTag).cs pv))
                | 2 => RegionOwn.val (.string BB)
                | 3 => RegionOwn.val (.pointer (some ⟨gb + 1, 11, none⟩))
                | 4 => RegionOwn.val (.string badTag)
                | 5 => RegionOwn.val (.string (BB ++ badTag))
                | 6 => RegionOwn.row 1 [.string (BB ++ badTag)] 7
                | _ => RegionOwn.val undef) (fun j => match j with | 6 => some 7 | _ => none) ?_ (by kernel_rfl) rfl (by kernel_rfl) ?_ ?_ ?_
              · intro j hj
                match j, hj with
                | 0, _ | 1, _ | 2, _ | 3, _ | 4, _ | 5, _ | 6, _ => rfl
                | j + 7, h => exact absurd h (by omega)
              · intro j p hj h
                match j, hj, h with
                | 0, _, h | 1, _, h | 2, _, h | 3, _, h | 4, _, h | 5, _, h | 6, _, h => cases h
                | j + 7, h, _ => exact absurd h (by omega)
              · intro j hj y z hfr hbx hD _ K hK
                have e3 : RegionOwn.T y 3 = u3 := hfr.at (by kernel_rfl) rfl
                have e8 : RegionOwn.T y 8 = .pointer (some ⟨gb + 1, 0, none⟩) := hfr.at (by kernel_rfl) rfl
                have hsz := hbx.size
                match j, hj with
                | 0, _ =>
                  refine RegionOwn.quiet rfl rfl hK rfl rfl ?_
                  clear hK hD hfr
                  unfold RegionOwn.T at e3
                  go_simp
                | 1, _ =>
                  refine RegionOwn.quiet rfl rfl hK rfl rfl ?_
                  obtain ⟨m0, m1, m2, m3, m4, m5, m6, m7, m8, m9, m10, m11⟩ := cells12 (X8b.out.step hbx).nr
                  clear hK hD hfr c11
                  unfold RegionOwn.T at e8
                  go_simp
                | 2, _ =>
                  have q : RegionOwn.T y 97 = .agg ((gNd (mdTo gs i).2 i g badTag).cs pv) := hD 1 97 (by decide) rfl (by kernel_rfl) (.inl rfl)
                  refine RegionOwn.called (f := 17) (args := #[.agg ((gNd (mdTo gs i).2 i g badTag).cs pv)]) rfl rfl hK rfl ?_ ((HBd.out z hbx).mono fun e z2 ⟨h1, h2⟩ => ⟨_, h1, h2, rfl⟩)
                  clear hK hD hfr
                  unfold RegionOwn.T at q
                  have hcl := Tryz.call17
                  go_simp
                | 3, _ =>
                  refine RegionOwn.quiet rfl rfl hK rfl rfl ?_
                  clear hK hD hfr
                  unfold RegionOwn.T at e8
                  go_simp
                | 4, _ =>
                  refine RegionOwn.quiet rfl rfl hK rfl rfl ?_
                  have q : RegionOwn.T y 99 = .pointer (some ⟨gb + 1, 11, none⟩) := hD 3 99 (by decide) rfl (by kernel_rfl) (.inl rfl)
                  have c1 : z.cell? ⟨gb + 1, 11, none⟩ = some (.string badTag) := (cells12 (X8b.out.step hbx).nr).2.2.2.2.2.2.2.2.2.2.2
                  clear hK hD hfr
                  unfold RegionOwn.T at q
                  go_simp
                | 5, _ =>
                  refine RegionOwn.quiet rfl rfl hK rfl rfl ?_
                  have q : RegionOwn.T y 98 = .string BB := hD 2 98 (by decide) rfl (by kernel_rfl) (.inl rfl)
                  have q1 : RegionOwn.T y 100 = .string badTag := hD 4 100 (by decide) rfl (by kernel_rfl) (.inl rfl)
                  have hsum2 : BB.size + (badTag : ByteArray).size ≤ 9223372036854775807 := by omega
                  clear hK hD hfr
                  unfold RegionOwn.T at q q1
                  go_simp
                  try omega
                | 6, _ =>
                  have q : RegionOwn.T y 101 = .string (BB ++ badTag) := hD 5 101 (by decide) rfl (by kernel_rfl) (.inl rfl)
                  refine RegionOwn.made (ob := .cells #[.string (BB ++ badTag)] 9) (v := .slice (some ⟨z.heap.size, 0, none⟩) 1 1) rfl rfl hK (RegionOwn.made_one z _ 9 1 #[.string (BB ++ badTag)] hsz rfl) (fun g h => by simp [Value.ownBlock] at h; omega) ?_
                  clear hK hD hfr
                  unfold RegionOwn.T at q
                  have q' := q
                  rw [Array.getD_eq_getD_getElem?] at q'
                  go_simp
                | j + 7, h => exact absurd h (by omega)
              · intro y z hfr hbx hD
                have q0 : RegionOwn.T y 96 = u3 := hD 0 96 (by decide) rfl (fun i hi e => by cases e)
                have q6 : z.ownsRow w8b.heap.size 9 1 (RegionOwn.T y 102) 1 [.string (BB ++ badTag)] := hD 6 102 (by decide) rfl (fun i hi e => by cases e; omega)
                have hys := hfr.sets [96, 97, 98, 99, 100, 101, 102] (by kernel_rfl)
                simp only [RegionOwn.setAll, List.foldl_cons, List.foldl_nil] at hys
                have X9 := hide (X8b.out.step hbx)
                clear hD hfr hbx
                generalize RegionOwn.T y 96 = u96 at *
                generalize RegionOwn.T y 97 = u97 at *
                generalize RegionOwn.T y 98 = u98 at *
                generalize RegionOwn.T y 99 = u99 at *
                generalize RegionOwn.T y 100 = u100 at *
                generalize RegionOwn.T y 101 = u101 at *
                generalize RegionOwn.T y 102 = u102 at *
                subst hys q0
                obtain ⟨g9, hu102⟩ : ∃ g9, u102 = .slice (some ⟨g9, 0, none⟩) 1 1 ∨ ∃ cp, u102 = .slice (some ⟨g9, 0, none⟩) 1 cp := by
                  rcases q6.2 with ⟨_, e⟩ | ⟨g9, cp, _, e, _⟩
                  · cases e
                  · exact ⟨g9, .inr ⟨cp, e⟩⟩
                obtain ⟨cp9, hu⟩ : ∃ cp, u102 = .slice (some ⟨g9, 0, none⟩) 1 cp := by
                  rcases hu102 with e | e
                  · exact ⟨1, e⟩
                  · exact e
                subst hu
                simp only [List.drop_succ_cons, List.drop_zero, List.setIfInBounds_toArray, List.set_cons_succ, List.set_cons_zero]
                refine wpList_append_at rfl _ _ 24 rfl w.heap.size 9 i9 (.string ⟨#[]⟩) 16 Tryz.underlying24 hi9 hz0 hz1 hz2 rfl _ _ _ rfl X9.out.md.o ⟨g9, 0, none⟩ 1 cp9 [.string (BB ++ badTag)] rfl rfl (q6.cells rfl) (by intro u hu; simp at hu; subst hu; rfl) (by have := HMd.out.1; unfold maxLen; omega) (by have := HMd.out.1; omega) X9.out.md.below.size ?_
                intro v10 w10 hown hgrow hwh
                have M10 := hide (X9.out.md.addO hgrow hown hwh)
                obtain ⟨za2, zc2, hzv⟩ := own_slice hown
                clear hown hgrow hwh q6 X9
                subst hzv
                go_wp2_with fail
                go_roundw
                case rel =>
                  refine ⟨i + 1, by omega, by go_num, ?_⟩
                  rw [mdTo_some hg, ← HOut.out, ← HHh.out]
                  exact M10.out
                case measure => simp [intOf]; omega
            · have hG : gTag (mdTo gs i).2 i g = T0 := by unfold gTag; rw [if_neg (by rw [← HS.out]; exact hsp), HT0.out, HHh.out]
              have HGt := hide hG
              clear hG
              have hsT := gNd_sig (hs := (mdTo gs i).2) (i := i) g T0 HMd.out.2.2 HMd.out.2.1
              have HBd := hide (fun w' (kk : Below w8.heap.size w8 w') => rbody_any (gNd (mdTo gs i).2 i g T0) pv w' (X8.out.step kk).hs.reads hsT)
              unfold Nd.v at HBd
              have hbsz := hsT.size
              have HOut : Hid ((gNd (mdTo gs i).2 i g T0).bodyB ++ T0 = gOut (mdTo gs i).2 i g) := by
                show _ = _
                rw [show gOut (mdTo gs i).2 i g = (gNd (mdTo gs i).2 i g T0).bytesB from by unfold gOut; rw [HGt.out]]
                exact bytesB_eq _
              obtain ⟨BB, hBB⟩ : ∃ BB, BB = (gNd (mdTo gs i).2 i g T0).bodyB := ⟨_, rfl⟩
              rw [← hBB] at HBd hbsz HOut
              have hts : (T0 : ByteArray).size = 32 := HTz.out
              have c11 := cell_regrown (show w8.cell? ⟨gb + 1, 11, none⟩ = some (.string T0) from (cells12 X8.out.nr).2.2.2.2.2.2.2.2.2.2.2)
              have hsum : BB.size + T0.size ≤ 1000 := by omega
              have hrow := hide X8.out.nr
              clear hBB
              go_upto_region 19 with fail
              refine RegionOwn.regionK 7 105 9 1 (fun j => match j with
                | 0 => RegionOwn.val u3
                | 1 => RegionOwn.val (.agg ((gNd (mdTo gs i).2 i g T0).cs pv))
                | 2 => RegionOwn.val (.string BB)
                | 3 => RegionOwn.val (.pointer (some ⟨gb + 1, 11, none⟩))
                | 4 => RegionOwn.val (.string T0)
                | 5 => RegionOwn.val (.string (BB ++ T0))
                | 6 => RegionOwn.row 1 [.string (BB ++ T0)] 7
                | _ => RegionOwn.val undef) (fun j => match j with | 6 => some 7 | _ => none) ?_ (by kernel_rfl) rfl (by kernel_rfl) ?_ ?_ ?_
              · intro j hj
                match j, hj with
                | 0, _ | 1, _ | 2, _ | 3, _ | 4, _ | 5, _ | 6, _ => rfl
                | j + 7, h => exact absurd h (by omega)
              · intro j p hj h
                match j, hj, h with
                | 0, _, h | 1, _, h | 2, _, h | 3, _, h | 4, _, h | 5, _, h | 6, _, h => cases h
                | j + 7, h, _ => exact absurd h (by omega)
              · intro j hj y z hfr hbx hD _ K hK
                have e3 : RegionOwn.T y 3 = u3 := hfr.at (by kernel_rfl) rfl
                have e8 : RegionOwn.T y 8 = .pointer (some ⟨gb + 1, 0, none⟩) := hfr.at (by kernel_rfl) rfl
                have hsz := hbx.size
                match j, hj with
                | 0, _ =>
                  refine RegionOwn.quiet rfl rfl hK rfl rfl ?_
                  clear hK hD hfr
                  unfold RegionOwn.T at e3
                  go_simp
                | 1, _ =>
                  refine RegionOwn.quiet rfl rfl hK rfl rfl ?_
                  obtain ⟨m0, m1, m2, m3, m4, m5, m6, m7, m8, m9, m10, m11⟩ := cells12 (X8.out.step hbx).nr
                  clear hK hD hfr c11
                  unfold RegionOwn.T at e8
                  go_simp
                | 2, _ =>
                  have q : RegionOwn.T y 97 = .agg ((gNd (mdTo gs i).2 i g T0).cs pv) := hD 1 97 (by decide) rfl (by kernel_rfl) (.inl rfl)
                  refine RegionOwn.called (f := 17) (args := #[.agg ((gNd (mdTo gs i).2 i g T0).cs pv)]) rfl rfl hK rfl ?_ ((HBd.out z hbx).mono fun e z2 ⟨h1, h2⟩ => ⟨_, h1, h2, rfl⟩)
                  clear hK hD hfr
                  unfold RegionOwn.T at q
                  have hcl := Tryz.call17
                  go_simp
                | 3, _ =>
                  refine RegionOwn.quiet rfl rfl hK rfl rfl ?_
                  clear hK hD hfr
                  unfold RegionOwn.T at e8
                  go_simp
                | 4, _ =>
                  refine RegionOwn.quiet rfl rfl hK rfl rfl ?_
                  have q : RegionOwn.T y 99 = .pointer (some ⟨gb + 1, 11, none⟩) := hD 3 99 (by decide) rfl (by kernel_rfl) (.inl rfl)
                  have c1 : z.cell? ⟨gb + 1, 11, none⟩ = some (.string T0) := (cells12 (X8.out.step hbx).nr).2.2.2.2.2.2.2.2.2.2.2
                  clear hK hD hfr
                  unfold RegionOwn.T at q
                  go_simp
                | 5, _ =>
                  refine RegionOwn.quiet rfl rfl hK rfl rfl ?_
                  have q : RegionOwn.T y 98 = .string BB := hD 2 98 (by decide) rfl (by kernel_rfl) (.inl rfl)
                  have q1 : RegionOwn.T y 100 = .string T0 := hD 4 100 (by decide) rfl (by kernel_rfl) (.inl rfl)
                  have hsum2 : BB.size + (T0 : ByteArray).size ≤ 9223372036854775807 := by omega
                  clear hK hD hfr
                  unfold RegionOwn.T at q q1
                  go_simp
                  try omega
                | 6, _ =>
                  have q : RegionOwn.T y 101 = .string (BB ++ T0) := hD 5 101 (by decide) rfl (by kernel_rfl) (.inl rfl)
                  refine RegionOwn.made (ob := .cells #[.string (BB ++ T0)] 9) (v := .slice (some ⟨z.heap.size, 0, none⟩) 1 1) rfl rfl hK (RegionOwn.made_one z _ 9 1 #[.string (BB ++ T0)] hsz rfl) (fun g h => by simp [Value.ownBlock] at h; omega) ?_
                  clear hK hD hfr
                  unfold RegionOwn.T at q
                  have q' := q
                  rw [Array.getD_eq_getD_getElem?] at q'
                  go_simp
                | j + 7, h => exact absurd h (by omega)
              · intro y z hfr hbx hD
                have q0 : RegionOwn.T y 96 = u3 := hD 0 96 (by decide) rfl (fun i hi e => by cases e)
                have q6 : z.ownsRow w8.heap.size 9 1 (RegionOwn.T y 102) 1 [.string (BB ++ T0)] := hD 6 102 (by decide) rfl (fun i hi e => by cases e; omega)
                have hys := hfr.sets [96, 97, 98, 99, 100, 101, 102] (by kernel_rfl)
                simp only [RegionOwn.setAll, List.foldl_cons, List.foldl_nil] at hys
                have X9 := hide (X8.out.step hbx)
                clear hD hfr hbx
                generalize RegionOwn.T y 96 = u96 at *
                generalize RegionOwn.T y 97 = u97 at *
                generalize RegionOwn.T y 98 = u98 at *
                generalize RegionOwn.T y 99 = u99 at *
                generalize RegionOwn.T y 100 = u100 at *
                generalize RegionOwn.T y 101 = u101 at *
                generalize RegionOwn.T y 102 = u102 at *
                subst hys q0
                obtain ⟨g9, hu102⟩ : ∃ g9, u102 = .slice (some ⟨g9, 0, none⟩) 1 1 ∨ ∃ cp, u102 = .slice (some ⟨g9, 0, none⟩) 1 cp := by
                  rcases q6.2 with ⟨_, e⟩ | ⟨g9, cp, _, e, _⟩
                  · cases e
                  · exact ⟨g9, .inr ⟨cp, e⟩⟩
                obtain ⟨cp9, hu⟩ : ∃ cp, u102 = .slice (some ⟨g9, 0, none⟩) 1 cp := by
                  rcases hu102 with e | e
                  · exact ⟨1, e⟩
                  · exact e
                subst hu
                simp only [List.drop_succ_cons, List.drop_zero, List.setIfInBounds_toArray, List.set_cons_succ, List.set_cons_zero]
                refine wpList_append_at rfl _ _ 24 rfl w.heap.size 9 i9 (.string ⟨#[]⟩) 16 Tryz.underlying24 hi9 hz0 hz1 hz2 rfl _ _ _ rfl X9.out.md.o ⟨g9, 0, none⟩ 1 cp9 [.string (BB ++ T0)] rfl rfl (q6.cells rfl) (by intro u hu; simp at hu; subst hu; rfl) (by have := HMd.out.1; unfold maxLen; omega) (by have := HMd.out.1; omega) X9.out.md.below.size ?_
                intro v10 w10 hown hgrow hwh
                have M10 := hide (X9.out.md.addO hgrow hown hwh)
                obtain ⟨za2, zc2, hzv⟩ := own_slice hown
                clear hown hgrow hwh q6 X9
                subst hzv
                go_wp2_with fail
                go_roundw
                case rel =>
                  refine ⟨i + 1, by omega, by go_num, ?_⟩
                  rw [mdTo_some hg, ← HOut.out, ← HHh.out]
                  exact M10.out
                case measure => simp [intOf]; omega
          · go_upto_region 14 with fail
            clear hcut hcond hk1 d2
            go_region
            have X4 := hide ((((X.out.1.set 2 (.int .i64 3) _ rfl).set 3 (.int .u64 (C + 1)) _ rfl).set 4 (.int .i64 A) _ rfl).set 5 (.int .u64 (16 + Th)) ((gNd (mdTo gs i).2 i g ⟨#[]⟩).cs pv) (by rw [HAq.out, HCT.out.1, HCT.out.2]; rfl))
            clear d1 d3 n2 n3 n4 n5 f2 f3 f4 f5 hgl hnl hC1 hC2 hC3 hT1 hT2 hT3 hCr hTr
            generalize (((wr.setCell ⟨gb + 1, 2, none⟩ (.int .i64 3)).setCell ⟨gb + 1, 3, none⟩ (.int .u64 (C + 1))).setCell ⟨gb + 1, 4, none⟩ (.int .i64 A)).setCell ⟨gb + 1, 5, none⟩ (.int .u64 (16 + Th)) = w40 at *
            replace X4 := hide (X4.out.step (w' := World.drew w40) ⟨rfl, rfl, rfl, Nat.le_refl _, fun _ _ => rfl⟩)
            generalize World.drew w40 = w4 at *
            have hsg := gNd_sig (hs := (mdTo gs i).2) (i := i) g ⟨#[]⟩ HMd.out.2.2 HMd.out.2.1
            have HHs := hide (rnodeHash_any (gNd (mdTo gs i).2 i g ⟨#[]⟩) pv w4 X4.out.hs.reads hsg)
            obtain ⟨Hh, hHh⟩ : ∃ Hh, Hh = gHash (mdTo gs i).2 i g := ⟨_, rfl⟩
            have HHh := hide hHh
            replace HHs : Hid (Calls Tryz.prog 27 #[(gNd (mdTo gs i).2 i g ⟨#[]⟩).v pv] w4 fun e w' => e = .returned (.string Hh) ∧ Below w4.heap.size w4 w') := by rw [hHh]; exact HHs
            clear hHh
            unfold Nd.v at HHs
            go_wp2_with (first
              | (refine wpList_load_row rfl 51 _ rfl _ rfl _ _ _ _ X4.out.nr Tryz.underlying51 rfl infoRN ?_)
              | (go_at_call 27; refine HHs.out.mono ?_; rintro e w5 ⟨rfl, k5⟩; have X5 := hide (X4.out.step k5); clear k5)
              | (at_builtin; refine wpList_append_at rfl _ _ 24 rfl w.heap.size 9 i9 (.string ⟨#[]⟩) 16 Tryz.underlying24 hi9 hz0 hz1 hz2 rfl _ _ _ rfl (X5.out.md.h.alloc _) ⟨w5.heap.size, 0, none⟩ 1 1 [.string Hh] rfl rfl (cell_one_new _ _ _) ?a2 ?a3 ?a4 (Nat.le_trans X5.out.md.below.size (by simp)) ?_))
            case a2 => first | rfl | (intro u hu; simp at hu; subst hu; rfl)
            case a3 => have := HMd.out.2.1; unfold maxLen; omega
            case a4 => have := HMd.out.2.1; omega
            intro v6 w6 hown hgrow hwh
            have X6 := hide ((X5.out.step ((Below.refl _ w5).alloc (Nat.le_refl _) (.cells #[.string Hh] 9))).addH hgrow hown (by simpa using hwh))
            obtain ⟨za, zc, hzv⟩ := own_slice hown
            clear hown hgrow hwh X5 X4 HHs X
            subst hzv
            have HTg := hide (rnodeTag_any seedB (gNd (mdTo gs i).2 i g ⟨#[]⟩) pv w6 (by decide) X6.out.hs.reads hsg)
            obtain ⟨T0, hT0⟩ : ∃ T0, T0 = tagOf (Mac.keyOf seedB (an g.au 3).toNat) Hh := ⟨_, rfl⟩
            have HT0 := hide hT0
            replace HTg : Hid (Calls Tryz.prog 16 #[.string ⟨#[115, 101, 101, 100]⟩, (gNd (mdTo gs i).2 i g ⟨#[]⟩).v pv] w6 fun e w' => e = .returned (.string T0) ∧ Below w6.heap.size w6 w') := by rw [hT0, HHh.out]; exact HTg
            clear hT0
            unfold Nd.v at HTg
            go_upto_region 17 with (first
              | (refine wpList_load_row rfl 51 _ rfl _ rfl _ _ _ _ X6.out.nr Tryz.underlying51 rfl infoRN ?_)
              | (go_at_call 16; refine HTg.out.mono ?_; rintro e w7 ⟨rfl, k7⟩; have X7 := hide (X6.out.step k7); clear k7; have c11 := (cells12 X7.out.nr).2.2.2.2.2.2.2.2.2.2.2; have f11 : w7.frozen? ⟨gb + 1, 11, none⟩ = false := frozen_of_row _ _ _ _ _ X7.out.nr))
            have X8 := hide (X7.out.set 11 (.string T0) ((gNd (mdTo gs i).2 i g T0).cs pv) rfl)
            clear X7 X6 HTg c11 f11
            generalize w7.setCell ⟨gb + 1, 11, none⟩ (.string T0) = w8 at *
            have d4 : w8.cell? ⟨gb, 4, none⟩ = some (.int .i64 g.sp) := by rw [cell_of_row _ _ _ _ _ _ X8.out.gr]; rfl
            have HTz : Hid (T0.size = 32) := by show _ = _; rw [HT0.out]; exact tagOf_size _ _
            obtain ⟨S, hS⟩ : ∃ S, S = an g.sp 7 := ⟨_, rfl⟩
            have hS1 : bits .and .i64 g.sp 7 = S := hS.symm
            have HS := hide hS
            clear hS
            by_cases hsp : S = 1
            · have hG : gTag (mdTo gs i).2 i g = badTag := by unfold gTag; rw [if_pos (by rw [← HS.out]; exact hsp)]
              have HGt := hide hG
              clear hG
              subst hsp
              have c11 : w8.cell? ⟨gb + 1, 11, none⟩ = some (.string T0) := (cells12 X8.out.nr).2.2.2.2.2.2.2.2.2.2.2
              have f11 : w8.frozen? ⟨gb + 1, 11, none⟩ = false := frozen_of_row _ _ _ _ _ X8.out.nr
              have X8b := hide (X8.out.set 11 (.string badTag) ((gNd (mdTo gs i).2 i g badTag).cs pv) rfl)
              go_upto_region 19 with fail
              clear c11 f11 d4 hS1
              have hw8b : w8.setCell ⟨gb + 1, 11, none⟩ (.string badTag) = w8.setCell ⟨gb + 1, 11, none⟩ (.string ⟨#[49, 50, 51, 52, 53, 54, 55, 56, 57, 48, 49, 50, 51, 52, 53, 54, 55, 56, 57, 48, 49, 50, 51, 52, 53, 54, 55, 56, 57, 48, 49, 50]⟩) := rfl
              rw [hw8b] at X8b
              clear hw8b
              generalize w8.setCell ⟨gb + 1, 11, none⟩ (.string ⟨#[49, 50, 51, 52, 53, 54, 55, 56, 57, 48, 49, 50, 51, 52, 53, 54, 55, 56, 57, 48, 49, 50, 51, 52, 53, 54, 55, 56, 57, 48, 49, 50]⟩) = w8b at *
              have hsT := gNd_sig (hs := (mdTo gs i).2) (i := i) g badTag HMd.out.2.2 HMd.out.2.1
              have HBd := hide (fun w' (kk : Below w8b.heap.size w8b w') => rbody_any (gNd (mdTo gs i).2 i g badTag) pv w' (X8b.out.step kk).hs.reads hsT)
              unfold Nd.v at HBd
              have hbsz := hsT.size
              have HOut : Hid ((gNd (mdTo gs i).2 i g badTag).bodyB ++ badTag = gOut (mdTo gs i).2 i g) := by
                show _ = _
                rw [show gOut (mdTo gs i).2 i g = (gNd (mdTo gs i).2 i g badTag).bytesB from by unfold gOut; rw [HGt.out]]
                exact bytesB_eq _
              obtain ⟨BB, hBB⟩ : ∃ BB, BB = (gNd (mdTo gs i).2 i g badTag).bodyB := ⟨_, rfl⟩
              rw [← hBB] at HBd hbsz HOut
              have hts : (badTag : ByteArray).size = 32 := rfl
              have c11 := cell_regrown (show w8b.cell? ⟨gb + 1, 11, none⟩ = some (.string badTag) from (cells12 X8b.out.nr).2.2.2.2.2.2.2.2.2.2.2)
              have hsum : BB.size + badTag.size ≤ 1000 := by omega
              have hrow := hide X8b.out.nr
              clear hBB
              refine RegionOwn.regionK 7 105 9 1 (fun j => match j with
                | 0 => RegionOwn.val u3
                | 1 => RegionOwn.val (.agg ((gNd (mdTo gs i).2 i g badTag).cs pv))
                | 2 => RegionOwn.val (.string BB)
                | 3 => RegionOwn.val (.pointer (some ⟨gb + 1, 11, none⟩))
                | 4 => RegionOwn.val (.string badTag)
                | 5 => RegionOwn.val (.string (BB ++ badTag))
                | 6 => RegionOwn.row 1 [.string (BB ++ badTag)] 7
                | _ => RegionOwn.val undef) (fun j => match j with | 6 => some 7 | _ => none) ?_ (by kernel_rfl) rfl (by kernel_rfl) ?_ ?_ ?_
              · intro j hj
                match j, hj with
                | 0, _ | 1, _ | 2, _ | 3, _ | 4, _ | 5, _ | 6, _ => rfl
                | j + 7, h => exact absurd h (by omega)
              · intro j p hj h
                match j, hj, h with
                | 0, _, h | 1, _, h | 2, _, h | 3, _, h | 4, _, h | 5, _, h | 6, _, h => cases h
                | j + 7, h, _ => exact absurd h (by omega)
              · intro j hj y z hfr hbx hD _ K hK
                have e3 : RegionOwn.T y 3 = u3 := hfr.at (by kernel_rfl) rfl
                have e8 : RegionOwn.T y 8 = .pointer (some ⟨gb + 1, 0, none⟩) := hfr.at (by kernel_rfl) rfl
                have hsz := hbx.size
                match j, hj with
                | 0, _ =>
                  refine RegionOwn.quiet rfl rfl hK rfl rfl ?_
                  clear hK hD hfr
                  unfold RegionOwn.T at e3
                  go_simp
                | 1, _ =>
                  refine RegionOwn.quiet rfl rfl hK rfl rfl ?_
                  obtain ⟨m0, m1, m2, m3, m4, m5, m6, m7, m8, m9, m10, m11⟩ := cells12 (X8b.out.step hbx).nr
                  clear hK hD hfr c11
                  unfold RegionOwn.T at e8
                  go_simp
                | 2, _ =>
                  have q : RegionOwn.T y 97 = .agg ((gNd (mdTo gs i).2 i g badTag).cs pv) := hD 1 97 (by decide) rfl (by kernel_rfl) (.inl rfl)
                  refine RegionOwn.called (f := 17) (args := #[.agg ((gNd (mdTo gs i).2 i g badTag).cs pv)]) rfl rfl hK rfl ?_ ((HBd.out z hbx).mono fun e z2 ⟨h1, h2⟩ => ⟨_, h1, h2, rfl⟩)
                  clear hK hD hfr
                  unfold RegionOwn.T at q
                  have hcl := Tryz.call17
                  go_simp
                | 3, _ =>
                  refine RegionOwn.quiet rfl rfl hK rfl rfl ?_
                  clear hK hD hfr
                  unfold RegionOwn.T at e8
                  go_simp
                | 4, _ =>
                  refine RegionOwn.quiet rfl rfl hK rfl rfl ?_
                  have q : RegionOwn.T y 99 = .pointer (some ⟨gb + 1, 11, none⟩) := hD 3 99 (by decide) rfl (by kernel_rfl) (.inl rfl)
                  have c1 : z.cell? ⟨gb + 1, 11, none⟩ = some (.string badTag) := (cells12 (X8b.out.step hbx).nr).2.2.2.2.2.2.2.2.2.2.2
                  clear hK hD hfr
                  unfold RegionOwn.T at q
                  go_simp
                | 5, _ =>
                  refine RegionOwn.quiet rfl rfl hK rfl rfl ?_
                  have q : RegionOwn.T y 98 = .string BB := hD 2 98 (by decide) rfl (by kernel_rfl) (.inl rfl)
                  have q1 : RegionOwn.T y 100 = .string badTag := hD 4 100 (by decide) rfl (by kernel_rfl) (.inl rfl)
                  have hsum2 : BB.size + (badTag : ByteArray).size ≤ 9223372036854775807 := by omega
                  clear hK hD hfr
                  unfold RegionOwn.T at q q1
                  go_simp
                  try omega
                | 6, _ =>
                  have q : RegionOwn.T y 101 = .string (BB ++ badTag) := hD 5 101 (by decide) rfl (by kernel_rfl) (.inl rfl)
                  refine RegionOwn.made (ob := .cells #[.string (BB ++ badTag)] 9) (v := .slice (some ⟨z.heap.size, 0, none⟩) 1 1) rfl rfl hK (RegionOwn.made_one z _ 9 1 #[.string (BB ++ badTag)] hsz rfl) (fun g h => by simp [Value.ownBlock] at h; omega) ?_
                  clear hK hD hfr
                  unfold RegionOwn.T at q
                  have q' := q
                  rw [Array.getD_eq_getD_getElem?] at q'
                  go_simp
                | j + 7, h => exact absurd h (by omega)
              · intro y z hfr hbx hD
                have q0 : RegionOwn.T y 96 = u3 := hD 0 96 (by decide) rfl (fun i hi e => by cases e)
                have q6 : z.ownsRow w8b.heap.size 9 1 (RegionOwn.T y 102) 1 [.string (BB ++ badTag)] := hD 6 102 (by decide) rfl (fun i hi e => by cases e; omega)
                have hys := hfr.sets [96, 97, 98, 99, 100, 101, 102] (by kernel_rfl)
                simp only [RegionOwn.setAll, List.foldl_cons, List.foldl_nil] at hys
                have X9 := hide (X8b.out.step hbx)
                clear hD hfr hbx
                generalize RegionOwn.T y 96 = u96 at *
                generalize RegionOwn.T y 97 = u97 at *
                generalize RegionOwn.T y 98 = u98 at *
                generalize RegionOwn.T y 99 = u99 at *
                generalize RegionOwn.T y 100 = u100 at *
                generalize RegionOwn.T y 101 = u101 at *
                generalize RegionOwn.T y 102 = u102 at *
                subst hys q0
                obtain ⟨g9, hu102⟩ : ∃ g9, u102 = .slice (some ⟨g9, 0, none⟩) 1 1 ∨ ∃ cp, u102 = .slice (some ⟨g9, 0, none⟩) 1 cp := by
                  rcases q6.2 with ⟨_, e⟩ | ⟨g9, cp, _, e, _⟩
                  · cases e
                  · exact ⟨g9, .inr ⟨cp, e⟩⟩
                obtain ⟨cp9, hu⟩ : ∃ cp, u102 = .slice (some ⟨g9, 0, none⟩) 1 cp := by
                  rcases hu102 with e | e
                  · exact ⟨1, e⟩
                  · exact e
                subst hu
                simp only [List.drop_succ_cons, List.drop_zero, List.setIfInBounds_toArray, List.set_cons_succ, List.set_cons_zero]
                refine wpList_append_at rfl _ _ 24 rfl w.heap.size 9 i9 (.string ⟨#[]⟩) 16 Tryz.underlying24 hi9 hz0 hz1 hz2 rfl _ _ _ rfl X9.out.md.o ⟨g9, 0, none⟩ 1 cp9 [.string (BB ++ badTag)] rfl rfl (q6.cells rfl) (by intro u hu; simp at hu; subst hu; rfl) (by have := HMd.out.1; unfold maxLen; omega) (by have := HMd.out.1; omega) X9.out.md.below.size ?_
                intro v10 w10 hown hgrow hwh
                have M10 := hide (X9.out.md.addO hgrow hown hwh)
                obtain ⟨za2, zc2, hzv⟩ := own_slice hown
                clear hown hgrow hwh q6 X9
                subst hzv
                go_wp2_with fail
                go_roundw
                case rel =>
                  refine ⟨i + 1, by omega, by go_num, ?_⟩
                  rw [mdTo_some hg, ← HOut.out, ← HHh.out]
                  exact M10.out
                case measure => simp [intOf]; omega
            · have hG : gTag (mdTo gs i).2 i g = T0 := by unfold gTag; rw [if_neg (by rw [← HS.out]; exact hsp), HT0.out, HHh.out]
              have HGt := hide hG
              clear hG
              have hsT := gNd_sig (hs := (mdTo gs i).2) (i := i) g T0 HMd.out.2.2 HMd.out.2.1
              have HBd := hide (fun w' (kk : Below w8.heap.size w8 w') => rbody_any (gNd (mdTo gs i).2 i g T0) pv w' (X8.out.step kk).hs.reads hsT)
              unfold Nd.v at HBd
              have hbsz := hsT.size
              have HOut : Hid ((gNd (mdTo gs i).2 i g T0).bodyB ++ T0 = gOut (mdTo gs i).2 i g) := by
                show _ = _
                rw [show gOut (mdTo gs i).2 i g = (gNd (mdTo gs i).2 i g T0).bytesB from by unfold gOut; rw [HGt.out]]
                exact bytesB_eq _
              obtain ⟨BB, hBB⟩ : ∃ BB, BB = (gNd (mdTo gs i).2 i g T0).bodyB := ⟨_, rfl⟩
              rw [← hBB] at HBd hbsz HOut
              have hts : (T0 : ByteArray).size = 32 := HTz.out
              have c11 := cell_regrown (show w8.cell? ⟨gb + 1, 11, none⟩ = some (.string T0) from (cells12 X8.out.nr).2.2.2.2.2.2.2.2.2.2.2)
              have hsum : BB.size + T0.size ≤ 1000 := by omega
              have hrow := hide X8.out.nr
              clear hBB
              go_upto_region 19 with fail
              refine RegionOwn.regionK 7 105 9 1 (fun j => match j with
                | 0 => RegionOwn.val u3
                | 1 => RegionOwn.val (.agg ((gNd (mdTo gs i).2 i g T0).cs pv))
                | 2 => RegionOwn.val (.string BB)
                | 3 => RegionOwn.val (.pointer (some ⟨gb + 1, 11, none⟩))
                | 4 => RegionOwn.val (.string T0)
                | 5 => RegionOwn.val (.string (BB ++ T0))
                | 6 => RegionOwn.row 1 [.string (BB ++ T0)] 7
                | _ => RegionOwn.val undef) (fun j => match j with | 6 => some 7 | _ => none) ?_ (by kernel_rfl) rfl (by kernel_rfl) ?_ ?_ ?_
              · intro j hj
                match j, hj with
                | 0, _ | 1, _ | 2, _ | 3, _ | 4, _ | 5, _ | 6, _ => rfl
                | j + 7, h => exact absurd h (by omega)
              · intro j p hj h
                match j, hj, h with
                | 0, _, h | 1, _, h | 2, _, h | 3, _, h | 4, _, h | 5, _, h | 6, _, h => cases h
                | j + 7, h, _ => exact absurd h (by omega)
              · intro j hj y z hfr hbx hD _ K hK
                have e3 : RegionOwn.T y 3 = u3 := hfr.at (by kernel_rfl) rfl
                have e8 : RegionOwn.T y 8 = .pointer (some ⟨gb + 1, 0, none⟩) := hfr.at (by kernel_rfl) rfl
                have hsz := hbx.size
                match j, hj with
                | 0, _ =>
                  refine RegionOwn.quiet rfl rfl hK rfl rfl ?_
                  clear hK hD hfr
                  unfold RegionOwn.T at e3
                  go_simp
                | 1, _ =>
                  refine RegionOwn.quiet rfl rfl hK rfl rfl ?_
                  obtain ⟨m0, m1, m2, m3, m4, m5, m6, m7, m8, m9, m10, m11⟩ := cells12 (X8.out.step hbx).nr
                  clear hK hD hfr c11
                  unfold RegionOwn.T at e8
                  go_simp
                | 2, _ =>
                  have q : RegionOwn.T y 97 = .agg ((gNd (mdTo gs i).2 i g T0).cs pv) := hD 1 97 (by decide) rfl (by kernel_rfl) (.inl rfl)
                  refine RegionOwn.called (f := 17) (args := #[.agg ((gNd (mdTo gs i).2 i g T0).cs pv)]) rfl rfl hK rfl ?_ ((HBd.out z hbx).mono fun e z2 ⟨h1, h2⟩ => ⟨_, h1, h2, rfl⟩)
                  clear hK hD hfr
                  unfold RegionOwn.T at q
                  have hcl := Tryz.call17
                  go_simp
                | 3, _ =>
                  refine RegionOwn.quiet rfl rfl hK rfl rfl ?_
                  clear hK hD hfr
                  unfold RegionOwn.T at e8
                  go_simp
                | 4, _ =>
                  refine RegionOwn.quiet rfl rfl hK rfl rfl ?_
                  have q : RegionOwn.T y 99 = .pointer (some ⟨gb + 1, 11, none⟩) := hD 3 99 (by decide) rfl (by kernel_rfl) (.inl rfl)
                  have c1 : z.cell? ⟨gb + 1, 11, none⟩ = some (.string T0) := (cells12 (X8.out.step hbx).nr).2.2.2.2.2.2.2.2.2.2.2
                  clear hK hD hfr
                  unfold RegionOwn.T at q
                  go_simp
                | 5, _ =>
                  refine RegionOwn.quiet rfl rfl hK rfl rfl ?_
                  have q : RegionOwn.T y 98 = .string BB := hD 2 98 (by decide) rfl (by kernel_rfl) (.inl rfl)
                  have q1 : RegionOwn.T y 100 = .string T0 := hD 4 100 (by decide) rfl (by kernel_rfl) (.inl rfl)
                  have hsum2 : BB.size + (T0 : ByteArray).size ≤ 9223372036854775807 := by omega
                  clear hK hD hfr
                  unfold RegionOwn.T at q q1
                  go_simp
                  try omega
                | 6, _ =>
                  have q : RegionOwn.T y 101 = .string (BB ++ T0) := hD 5 101 (by decide) rfl (by kernel_rfl) (.inl rfl)
                  refine RegionOwn.made (ob := .cells #[.string (BB ++ T0)] 9) (v := .slice (some ⟨z.heap.size, 0, none⟩) 1 1) rfl rfl hK (RegionOwn.made_one z _ 9 1 #[.string (BB ++ T0)] hsz rfl) (fun g h => by simp [Value.ownBlock] at h; omega) ?_
                  clear hK hD hfr
                  unfold RegionOwn.T at q
                  have q' := q
                  rw [Array.getD_eq_getD_getElem?] at q'
                  go_simp
                | j + 7, h => exact absurd h (by omega)
              · intro y z hfr hbx hD
                have q0 : RegionOwn.T y 96 = u3 := hD 0 96 (by decide) rfl (fun i hi e => by cases e)
                have q6 : z.ownsRow w8.heap.size 9 1 (RegionOwn.T y 102) 1 [.string (BB ++ T0)] := hD 6 102 (by decide) rfl (fun i hi e => by cases e; omega)
                have hys := hfr.sets [96, 97, 98, 99, 100, 101, 102] (by kernel_rfl)
                simp only [RegionOwn.setAll, List.foldl_cons, List.foldl_nil] at hys
                have X9 := hide (X8.out.step hbx)
                clear hD hfr hbx
                generalize RegionOwn.T y 96 = u96 at *
                generalize RegionOwn.T y 97 = u97 at *
                generalize RegionOwn.T y 98 = u98 at *
                generalize RegionOwn.T y 99 = u99 at *
                generalize RegionOwn.T y 100 = u100 at *
                generalize RegionOwn.T y 101 = u101 at *
                generalize RegionOwn.T y 102 = u102 at *
                subst hys q0
                obtain ⟨g9, hu102⟩ : ∃ g9, u102 = .slice (some ⟨g9, 0, none⟩) 1 1 ∨ ∃ cp, u102 = .slice (some ⟨g9, 0, none⟩) 1 cp := by
                  rcases q6.2 with ⟨_, e⟩ | ⟨g9, cp, _, e, _⟩
                  · cases e
                  · exact ⟨g9, .inr ⟨cp, e⟩⟩
                obtain ⟨cp9, hu⟩ : ∃ cp, u102 = .slice (some ⟨g9, 0, none⟩) 1 cp := by
                  rcases hu102 with e | e
                  · exact ⟨1, e⟩
                  · exact e
                subst hu
                simp only [List.drop_succ_cons, List.drop_zero, List.setIfInBounds_toArray, List.set_cons_succ, List.set_cons_zero]
                refine wpList_append_at rfl _ _ 24 rfl w.heap.size 9 i9 (.string ⟨#[]⟩) 16 Tryz.underlying24 hi9 hz0 hz1 hz2 rfl _ _ _ rfl X9.out.md.o ⟨g9, 0, none⟩ 1 cp9 [.string (BB ++ T0)] rfl rfl (q6.cells rfl) (by intro u hu; simp at hu; subst hu; rfl) (by have := HMd.out.1; unfold maxLen; omega) (by have := HMd.out.1; omega) X9.out.md.below.size ?_
                intro v10 w10 hown hgrow hwh
                have M10 := hide (X9.out.md.addO hgrow hown hwh)
                obtain ⟨za2, zc2, hzv⟩ := own_slice hown
                clear hown hgrow hwh q6 X9
                subst hzv
                go_wp2_with fail
                go_roundw
                case rel =>
                  refine ⟨i + 1, by omega, by go_num, ?_⟩
                  rw [mdTo_some hg, ← HOut.out, ← HHh.out]
                  exact M10.out
                case measure => simp [intOf]; omega
    · have hcond : (i : Int) < gs.length → ¬ (i : Int) < 24 := by omega
      have hie : Hid (i = min gs.length 24) := by show _ = _; omega
      clear hlt hi
      by_cases h1 : (i : Int) < gs.length
      · have h2 := hcond h1
        go_wp2_with fail
        go_ret
        have ho := M.out.o
        rw [hie.out] at ho
        exact ⟨_, rfl, ho, M.out.below⟩
      · go_wp2_with fail
        go_ret
        have ho := M.out.o
        rw [hie.out] at ho
        exact ⟨_, rfl, ho, M.out.below⟩
end Go.Proofs.YtkbboddibgfjbaaGreatDoor
