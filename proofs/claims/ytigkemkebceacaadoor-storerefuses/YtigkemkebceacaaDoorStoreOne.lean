/- Several texts in one: StoreMem, StoreUse, StoreShelf, StoreKeep, StoreOwn. -/
import Derived.Test.YtigkemkebceacaaDoorStorePure
import Derived.Test.YtigkemkebceacaaDoorMerkleFour
import Derived.Shelf.Strconv.Clone
import Derived.Shelf.Slices.Clone
import Derived.Test.YtigkemkebceacaaDoorRows
import Derived.WalkKit
/- A store in memory: its block, its two maps. -/
namespace Go.St10
open Go.RowKit Go.MapFun
/-- A chunk's bytes (none: it is not there) and how often it is used. -/
structure Pc where
  b : ByteArray
  u : Int
def Pc.zero : Pc := ⟨⟨#[]⟩, 0⟩
def rPc (v : Value) : Option (DataW Unit × List MemPlace) :=
  match v with
  | .agg cs => match cs.toList with
    | [.string x, .int .i64 u] => some (.agg [.lit (.string x.data.toList), .lit (.int .i64 u)], [])
    | _ => none
  | _ => none
def pcE : Enc Pc where
  R := rPc
  v p := .agg #[.string p.b, .int .i64 p.u]
  d p := .agg [.lit (.string p.b.data.toList), .lit (.int .i64 p.u)]
  reads _ := rfl
  inv x y h := by
    unfold rPc at h
    split at h
    · rename_i cs
      split at h
      · rename_i e
        obtain ⟨l⟩ := cs
        dsimp only at e
        subst e
        exact ⟨⟨_, _⟩, rfl, (Option.some.inj h).symm⟩
      · cases h
    · cases h
  inj a b h := by
    obtain ⟨x, u⟩ := a
    obtain ⟨y, z⟩ := b
    simp only [DataW.agg.injEq, List.cons.injEq, DataW.lit.injEq, Lit.string.injEq, Lit.int.injEq, true_and, and_true] at h
    obtain ⟨h1, h2⟩ := h
    have : x = y := ByteArray.ext (Array.toList_inj.1 h1)
    rw [this, h2]
  ne a h := by cases h
/-- A manifest as it lies in the map: its size, and where its digests lie. -/
structure Mn where
  size : Int
  a : Option Nat
  n : Nat
  c : Nat
def Mn.sl (m : Mn) : Value := .slice (m.a.map fun b => ⟨b, 0, none⟩) m.n m.c
def Mn.num (a : Option Nat) : Int := match a with | some b => b | none => -1
theorem Mn.num_inj {a b : Option Nat} (h : Mn.num a = Mn.num b) : a = b := by
  unfold Mn.num at h
  cases a <;> cases b <;> simp at h ⊢ <;> omega
def dMn (m : Mn) : DataW Unit := .agg [.lit (.int .i64 m.size), .lit (.int .i64 (Mn.num m.a)), .lit (.int .i64 m.n), .lit (.int .i64 m.c)]
def rMn (v : Value) : Option (DataW Unit × List MemPlace) :=
  match v with
  | .agg cs => match cs.toList with
    | [.int .i64 s, .slice none n c] => some (dMn ⟨s, none, n, c⟩, [])
    | [.int .i64 s, .slice (some ⟨b, 0, none⟩) n c] => some (dMn ⟨s, some b, n, c⟩, [])
    | _ => none
  | _ => none
def mnE : Enc Mn where
  R := rMn
  v m := .agg #[.int .i64 m.size, m.sl]
  d := dMn
  reads m := by
    obtain ⟨s, a, n, c⟩ := m
    cases a <;> rfl
  inv x y h := by
    unfold rMn at h
    split at h
    · rename_i cs
      split at h
      · rename_i e
        obtain ⟨l⟩ := cs
        dsimp only at e
        subst e
        exact ⟨⟨_, none, _, _⟩, rfl, (Option.some.inj h).symm⟩
      · rename_i e
        obtain ⟨l⟩ := cs
        dsimp only at e
        subst e
        exact ⟨⟨_, some _, _, _⟩, rfl, (Option.some.inj h).symm⟩
      · cases h
    · cases h
  inj a b h := by
    obtain ⟨s, a, n, c⟩ := a
    obtain ⟨s', a', n', c'⟩ := b
    simp only [dMn, DataW.agg.injEq, List.cons.injEq, DataW.lit.injEq, Lit.int.injEq, true_and, and_true] at h
    obtain ⟨h1, h2, h3, h4⟩ := h
    obtain rfl := Mn.num_inj h2
    obtain rfl : n = n' := by omega
    obtain rfl : c = c' := by omega
    rw [h1]
  ne a h := by unfold dMn at h; cases h
/-- A store in block b: its quota, what is used, its two maps and what they hold. -/
structure StAt (P : Program) (S K b : Nat) (q u : Int) (cm fm : Option Nat) (C : ByteArray → Option Pc) (F : ByteArray → Option Mn) (w : World) : Prop where
  row : w.heap[b]? = some (.cells #[.int .i64 q, .int .i64 u, .map cm, .map fm] S (0, 0))
  ch : MapF P pcE K w cm C
  fi : MapF P mnE K w fm F
  apart : ∀ x, cm = some x → fm ≠ some x
theorem StAt.below {P : Program} {S K b : Nat} {q u : Int} {cm fm : Option Nat} {C : ByteArray → Option Pc} {F : ByteArray → Option Mn} {w w' : World} (h : StAt P S K b q u cm fm C F w) (k : Below w.heap.size w w') : StAt P S K b q u cm fm C F w' :=
  ⟨(k.block b (Array.getElem?_eq_some_iff.1 h.row).1).trans h.row, h.ch.below k, h.fi.below k, h.apart⟩
theorem StAt.cells {P : Program} {S K b : Nat} {q u : Int} {cm fm : Option Nat} {C : ByteArray → Option Pc} {F : ByteArray → Option Mn} {w : World} (h : StAt P S K b q u cm fm C F w) :
    w.cell? ⟨b, 0, none⟩ = some (.int .i64 q) ∧ w.cell? ⟨b, 1, none⟩ = some (.int .i64 u) ∧ w.cell? ⟨b, 2, none⟩ = some (.map cm) ∧ w.cell? ⟨b, 3, none⟩ = some (.map fm) := by
  refine ⟨?_, ?_, ?_, ?_⟩ <;> (rw [cell_of_row _ _ _ _ _ _ h.row]; rfl)
/-- What a store's call turns: its own block, and maps from base on. -/
structure Trn (base b : Nat) (w w' : World) : Prop where
  below : Below base w w'
  kept : ∀ x cs t k, x ≠ b → w.heap[x]? = some (.cells cs t k) → w'.heap[x]? = some (.cells cs t k)
theorem Trn.refl (base b : Nat) (w : World) : Trn base b w w := ⟨Below.refl _ _, fun _ _ _ _ _ h => h⟩
theorem Trn.trans {base b : Nat} {w w' w'' : World} (h : Trn base b w w') (k : Trn base b w' w'') : Trn base b w w'' := ⟨h.below.trans k.below, fun x cs t j hx hr => k.kept x cs t j hx (h.kept x cs t j hx hr)⟩
theorem Trn.of_below {base b : Nat} {w w' : World} (h : Below w.heap.size w w') (hb : base ≤ w.heap.size) : Trn base b w w' := ⟨h.mono hb, fun x _ _ _ _ hr => (h.block x (Array.getElem?_eq_some_iff.1 hr).1).trans hr⟩
theorem Trn.of_map {base b m : Nat} {w w' : World} (h : w.grownBy w' (some m)) (hm : ∃ es cl, w.heap[m]? = some (.map es cl)) (hb : base ≤ m) : Trn base b w w' := by
  obtain ⟨es, cl, hm⟩ := hm
  have hl := (Array.getElem?_eq_some_iff.1 hm).1
  refine ⟨(Below.refl base w).grown h (by omega) (fun k e => by cases e; exact hb), fun x cs t k _ hr => ?_⟩
  refine (h.block x (Array.getElem?_eq_some_iff.1 hr).1 fun e => ?_).trans hr
  cases e
  rw [hm] at hr
  cases hr
theorem Trn.set {base b : Nat} (w : World) (i : Nat) (v : Value) (hb : base ≤ b) : Trn base b w (w.setCell ⟨b, i, none⟩ v) :=
  ⟨(Below.refl base w).setCell hb v, fun x _ _ _ hx hr => (Below.heap_setCell w _ v x hx).trans hr⟩
/-- A store, its maps from base on. -/
def StX (P : Program) (S base K b : Nat) (q u : Int) (C : ByteArray → Option Pc) (F : ByteArray → Option Mn) (w : World) : Prop :=
  ∃ cm fm, StAt P S K b q u cm fm C F w ∧ base ≤ b ∧ (∀ x, cm = some x → base ≤ x) ∧ ∀ x, fm = some x → base ≤ x
/-- What is known of a chunk. -/
def pc (C : ByteArray → Option Pc) (s : ByteArray) : Pc := (C s).getD Pc.zero
theorem got_pc (C : ByteArray → Option Pc) (s : ByteArray) : got false (.agg #[.string ⟨#[]⟩, .int .i64 0]) pcE (C s) = .agg #[.string (pc C s).b, .int .i64 (pc C s).u] := by
  unfold pc
  cases C s <;> rfl
end Go.St10
namespace Go.Proofs.YtigkemkebceacaaDoor
open Go.RowKit Go.Shelf Go.Wire Go.Mk Go.Chunk Go.MapFun Go.St10
attribute [local go_sem] Oper.semAt_some
theorem zeroPc (w : World) : (zeroValue 69).run Tryd.prog w = .ok (.agg #[.string ⟨#[]⟩, .int .i64 0]) w := by kernel_rfl
theorem zeroMn (w : World) : (zeroValue 24).run Tryd.prog w = .ok (.agg #[.int .i64 0, .slice none 0 0]) w := by kernel_rfl
theorem fieldPc (x : ByteArray) (n : Int) (w : World) : (Instr.field 69 (.agg #[.string x, .int .i64 n]) 0).run Tryd.prog w = .ok (.string x) w := by kernel_rfl
theorem newStore_any (q : Int) (w : World) (hq : 0 ≤ q) :
    Calls Tryd.prog 5 #[.int .i64 q] w fun e w' => e = .returned (.tuple #[.pointer (some ⟨w.heap.size, 0, none⟩), .int .i64 0]) ∧ StAt Tryd.prog 55 0 w.heap.size q 0 none none (fun _ => none) (fun _ => none) w' ∧ Below w.heap.size w w' := by
  have h0 : ¬ q < 0 := by omega
  go_enter Tryd.func5, Tryd.ntmps5
  go_wp2
  go_ret2
  exact ⟨rfl, ⟨heap_alloc_new _ _, MapF.none _ _ _ _, MapF.none _ _ _ _, fun x h => by cases h⟩, (Below.refl _ w).alloc (Nat.le_refl _) _⟩
set_option maxRecDepth 100000 in
theorem has_any {K b : Nat} {q u : Int} {cm fm : Option Nat} {C : ByteArray → Option Pc} {F : ByteArray → Option Mn} (s : ByteArray) (w : World) (h : StAt Tryd.prog 55 K b q u cm fm C F w) (hs : s.size ≤ maxLen) :
    Calls Tryd.prog 31 #[.pointer (some ⟨b, 0, none⟩), .string s] w fun e w' => e = .returned (.bool (!((pc C s).b.toList == []))) ∧ w' = w := by
  obtain ⟨c0, c1, c2, c3⟩ := h.cells
  have hl := h.ch.look Tryd.underlying9 Tryd.underlying52 (zeroPc w) false s hs
  rw [got_pc] at hl
  clear h
  generalize pc C s = p at *
  obtain ⟨x, n⟩ := p
  dsimp only at hl ⊢
  have hf := fieldPc x n w
  go_enter Tryd.func31, Tryd.ntmps31
  go_wp2
  go_ret
  exact ⟨by simp, rfl⟩
set_option maxRecDepth 100000 in
theorem holds_any {K b : Nat} {q u : Int} {cm fm : Option Nat} {C : ByteArray → Option Pc} {F : ByteArray → Option Mn} (m : Int) (w : World) (h : StAt Tryd.prog 55 K b q u cm fm C F w) (hq : 0 ≤ q ∧ q ≤ 9223372036854775807) (hu : 0 ≤ u ∧ u ≤ q) :
    Calls Tryd.prog 28 #[.pointer (some ⟨b, 0, none⟩), .int .i64 m] w fun e w' => e = .returned (.bool (decide (m ≤ q - u))) ∧ Below w.heap.size w w' := by
  obtain ⟨c0, c1, c2, c3⟩ := h.cells
  have r0 := cell_regrown c0
  have r1 := cell_regrown c1
  have hw : IntKind.i64.wrap (q - u) = q - u := Sha.wrap_i64 _ (by omega) (by omega)
  clear h c0 c1 c2 c3
  go_enter Tryd.func28, Tryd.ntmps28
  go_upto_region 1 with fail
  refine QuietCalls.region (by kernel_rfl) (by kernel_rfl) ?_
  iterate 12 first | go_big_quiet_step (fail) | quiet_step (fail)
  refine wpQuiet_nil ?_
  intro w2 hb2
  have HB := hide hb2
  clear hb2 r0 r1
  go_wp2_with fail
  go_ret
  exact ⟨by simp, HB.out⟩
theorem cmSome (b : Nat) (w : World) : (binOp .eql 52 (.map (some b)) (.map none)).run Tryd.prog w = .ok (.bool false) w := by kernel_rfl
theorem cmNone (w : World) : (binOp .eql 52 (.map none) (.map none)).run Tryd.prog w = .ok (.bool true) w := by kernel_rfl
theorem infoPc : (Tryd.prog.info? 69).map (·.size) = some 2 := by kernel_rfl
/-- Behind a chunk that was laid in its place. -/
def laid (C : ByteArray → Option Pc) (s : ByteArray) (p : Pc) : ByteArray → Option Pc := fun t => if t = s then some p else C t
set_option maxRecDepth 100000 in
set_option maxHeartbeats 1000000 in
theorem lay_some {base K b m : Nat} {q u : Int} {fm : Option Nat} {C : ByteArray → Option Pc} {F : ByteArray → Option Mn} (s x : ByteArray) (n : Int) (w : World) (h : StAt Tryd.prog 55 K b q u (some m) fm C F w) (hb : base ≤ b) (hm : base ≤ m) (hf : ∀ x, fm = some x → base ≤ x) (hs : s.size ≤ maxLen) (hK : K < maxLen) :
    Calls Tryd.prog 44 #[.pointer (some ⟨b, 0, none⟩), .string s, .agg #[.string x, .int .i64 n]] w fun e w' => e = .returned (.tuple #[]) ∧ StX Tryd.prog 55 base (K + 1) b q u (laid C s ⟨x, n⟩) F w' ∧ Trn base b w w' := by
  have HG := hide ((Below.refl w.heap.size w).alloc (Nat.le_refl _) (.cells #[.string x, .int .i64 n] 69))
  have hw : base ≤ w.heap.size := Nat.le_of_lt (Nat.lt_of_le_of_lt hb (Array.getElem?_eq_some_iff.1 h.row).1)
  have h1 := h.below HG.out
  have hrow : (w.alloc (.cells #[.string x, .int .i64 n] 69)).heap[w.heap.size]? = some (.cells #[.string x, .int .i64 n] 69 (0, 0)) := heap_alloc_new _ _
  go_enter Tryd.func44, Tryd.ntmps44
  go_upto_region 1 with fail
  generalize w.alloc (.cells #[.string x, .int .i64 n] 69) = w1 at *
  obtain ⟨c0, c1, c2, c3⟩ := h1.cells
  have hms := cmSome m w1
  have H1 := hide (And.intro h1 hrow)
  have HX := hide (And.intro hb (And.intro hm (And.intro hf hw)))
  have r2 := cell_regrown c2
  clear h h1 hrow hb hm hf hw
  go_upto_region 3 with fail
  refine QuietCalls.tail 6 (by kernel_rfl) (by kernel_rfl) ?_
  simp only [List.take_succ_cons, List.take_zero, List.drop_succ_cons, List.drop_zero]
  iterate 5 first | go_big_quiet_step (fail) | quiet_step (fail)
  refine QuietCalls.load rfl 69 _ rfl _ rfl _ _ _ _ H1.out.2 Tryd.underlying69 rfl infoPc ?_; simp only [Act.put, List.setIfInBounds_toArray, List.set_cons_succ, List.set_cons_zero]
  refine wpQuiet_nil ?_
  intro w2 hb2
  obtain ⟨w3, hrun, hm3, hg3⟩ := (H1.out.1.below hb2).ch.update Tryd.underlying9 Tryd.underlying52 hK s hs ⟨x, n⟩
  change (Instr.mapUpdate 52 (.map (some m)) (.string s) (.agg #[.string x, .int .i64 n])).run Tryd.prog w2 = .ok () w3 at hrun
  have H3 := hide (And.intro hm3 (And.intro hg3 hb2))
  clear hm3 hg3 hb2 c0 c1 c2 c3 r2 hms
  go_wp2
  go_end0
  obtain ⟨hb, hm, hf, hw⟩ := HX.out
  obtain ⟨hm3, hg3, hb2⟩ := H3.out
  have h2 := H1.out.1.below hb2
  have t3 : Trn base b w2 w3 := .of_map hg3 (h2.ch.kind rfl) hm
  refine ⟨rfl, ⟨_, fm, ⟨?_, hm3, ?_, h2.apart⟩, hb, fun x e => by cases e; exact hm, hf⟩, ((Trn.of_below HG.out hw).trans (.of_below hb2 (Nat.le_trans hw HG.out.size))).trans t3⟩
  · refine (hg3.block b (Array.getElem?_eq_some_iff.1 h2.row).1 fun e => ?_).trans h2.row
    cases e
    obtain ⟨es, cl, e⟩ := h2.ch.kind rfl
    rw [h2.row] at e
    cases e
  · refine (h2.fi.kept fun y hy => hg3.block y (h2.fi.lt hy) fun e => ?_).mono (Nat.le_succ K)
    cases e
    exact h2.apart _ rfl hy
/-- A new map laid into a store's block. -/
theorem Stm.fresh {base K b : Nat} {q u : Int} {fm : Option Nat} {C : ByteArray → Option Pc} {F : ByteArray → Option Mn} (w : World) (h : StAt Tryd.prog 55 K b q u none fm C F w) (hb : base ≤ b) :
    StAt Tryd.prog 55 K b q u (some w.heap.size) fm C F ((w.alloc (.map #[] 0)).setCell ⟨b, 2, none⟩ (.map (some w.heap.size))) ∧ Trn base b w ((w.alloc (.map #[] 0)).setCell ⟨b, 2, none⟩ (.map (some w.heap.size))) := by
  have hl := (Array.getElem?_eq_some_iff.1 h.row).1
  have k := (Below.refl w.heap.size w).alloc (Nat.le_refl _) (.map #[] 0)
  have h1 := h.below k
  have hC : ∀ s, C s = none := by
    rcases h.ch with h | ⟨_, _, _, e, _⟩
    · exact h.2
    · cases e
  obtain rfl : C = fun _ => none := funext hC
  refine ⟨⟨?_, ?_, ?_, ?_⟩, (Trn.of_below k (by omega)).trans (.set _ _ _ hb)⟩
  · rw [heap_setCell_same _ _ _ _ _ _ h1.row]
    rfl
  · refine (MapF.made Tryd.prog pcE K w).kept fun y e => ?_
    cases e
    exact Below.heap_setCell _ _ _ _ (Nat.ne_of_gt hl)
  · refine h1.fi.kept fun y e => Below.heap_setCell _ _ _ _ fun e2 => ?_
    obtain ⟨es, cl, e3⟩ := h1.fi.kind e
    have e4 := h1.row
    dsimp only at e2
    rw [e2, e4] at e3
    cases e3
  · rintro x e e2
    cases e
    exact Nat.lt_irrefl _ (h.fi.lt e2)
set_option maxRecDepth 100000 in
set_option maxHeartbeats 1000000 in
theorem lay_none {base K b : Nat} {q u : Int} {fm : Option Nat} {C : ByteArray → Option Pc} {F : ByteArray → Option Mn} (s x : ByteArray) (n : Int) (w : World) (h : StAt Tryd.prog 55 K b q u none fm C F w) (hb : base ≤ b) (hf : ∀ x, fm = some x → base ≤ x) (hs : s.size ≤ maxLen) (hK : K < maxLen) :
    Calls Tryd.prog 44 #[.pointer (some ⟨b, 0, none⟩), .string s, .agg #[.string x, .int .i64 n]] w fun e w' => e = .returned (.tuple #[]) ∧ StX Tryd.prog 55 base (K + 1) b q u (laid C s ⟨x, n⟩) F w' ∧ Trn base b w w' := by
  have HG := hide ((Below.refl w.heap.size w).alloc (Nat.le_refl _) (.cells #[.string x, .int .i64 n] 69))
  have hbw : b < w.heap.size := (Array.getElem?_eq_some_iff.1 h.row).1
  have hw : base ≤ w.heap.size := Nat.le_of_lt (Nat.lt_of_le_of_lt hb hbw)
  have h1 := h.below HG.out
  have hrow : (w.alloc (.cells #[.string x, .int .i64 n] 69)).heap[w.heap.size]? = some (.cells #[.string x, .int .i64 n] 69 (0, 0)) := heap_alloc_new _ _
  have hlt : w.heap.size ≠ b := by omega
  clear hbw
  go_enter Tryd.func44, Tryd.ntmps44
  go_upto_region 1 with fail
  generalize w.alloc (.cells #[.string x, .int .i64 n] 69) = w1 at *
  obtain ⟨c0, c1, c2, c3⟩ := h1.cells
  have hms := cmNone w1
  obtain ⟨h2, t2⟩ := Stm.fresh w1 h1 hb
  have hrow2 := t2.kept _ _ _ _ hlt hrow
  obtain ⟨d0, d1, d2, d3⟩ := h2.cells
  have ca : (w1.alloc (.map #[] 0)).cell? ⟨b, 2, none⟩ = some (.map none) := ((h1.below ((Below.refl _ w1).alloc (Nat.le_refl _) (.map #[] 0))).cells).2.2.1
  have hfz : (w1.alloc (.map #[] 0)).frozen? ⟨b, 2, none⟩ = false := frozen_of_row _ _ _ _ _ (h1.below ((Below.refl _ w1).alloc (Nat.le_refl _) (.map #[] 0))).row
  have r2 := cell_regrown d2
  have hmk := @run_makeMap Tryd.prog
  have H1 := hide (And.intro h2 (And.intro hrow2 t2))
  have HX := hide (And.intro hb (And.intro hf (And.intro hw (Nat.le_trans hw HG.out.size))))
  clear h h1 h2 t2 hrow hrow2 hb hf hw hlt d0 d1 d2 d3 c0 c1 c3
  go_upto_region 3 with fail
  refine QuietCalls.tail 6 (by kernel_rfl) (by kernel_rfl) ?_
  simp only [List.take_succ_cons, List.take_zero, List.drop_succ_cons, List.drop_zero]
  iterate 5 first | go_big_quiet_step (fail) | quiet_step (fail)
  refine QuietCalls.load rfl 69 _ rfl _ rfl _ _ _ _ H1.out.2.1 Tryd.underlying69 rfl infoPc ?_; simp only [Act.put, List.setIfInBounds_toArray, List.set_cons_succ, List.set_cons_zero]
  refine wpQuiet_nil ?_
  intro w2 hb2
  obtain ⟨w3, hrun, hm3, hg3⟩ := (H1.out.1.below hb2).ch.update Tryd.underlying9 Tryd.underlying52 hK s hs ⟨x, n⟩
  change (Instr.mapUpdate 52 (.map (some _)) (.string s) (.agg #[.string x, .int .i64 n])).run Tryd.prog w2 = .ok () w3 at hrun
  have H3 := hide (And.intro hm3 (And.intro hg3 hb2))
  clear hm3 hg3 hb2 c2 r2 hms ca hfz
  go_wp2
  go_end0
  obtain ⟨hb, hf, hw, hw1⟩ := HX.out
  obtain ⟨hm3, hg3, hb2⟩ := H3.out
  have h2 := H1.out.1.below hb2
  have t3 : Trn base b w2 w3 := .of_map hg3 (h2.ch.kind rfl) hw1
  refine ⟨rfl, ⟨_, fm, ⟨?_, hm3, ?_, h2.apart⟩, hb, fun x e => by cases e; exact hw1, hf⟩, (((Trn.of_below HG.out hw).trans H1.out.2.2).trans (.of_below hb2 (Nat.le_trans hw1 H1.out.2.2.below.size))).trans t3⟩
  · refine (hg3.block b (Array.getElem?_eq_some_iff.1 h2.row).1 fun e => ?_).trans h2.row
    cases e
    obtain ⟨es, cl, e⟩ := h2.ch.kind rfl
    rw [h2.row] at e
    cases e
  · refine (h2.fi.kept fun y hy => hg3.block y (h2.fi.lt hy) fun e => ?_).mono (Nat.le_succ K)
    cases e
    exact h2.apart _ rfl hy
theorem lay_any {base K b : Nat} {q u : Int} {C : ByteArray → Option Pc} {F : ByteArray → Option Mn} (s x : ByteArray) (n : Int) (w : World) (h : StX Tryd.prog 55 base K b q u C F w) (hs : s.size ≤ maxLen) (hK : K < maxLen) :
    Calls Tryd.prog 44 #[.pointer (some ⟨b, 0, none⟩), .string s, .agg #[.string x, .int .i64 n]] w fun e w' => e = .returned (.tuple #[]) ∧ StX Tryd.prog 55 base (K + 1) b q u (laid C s ⟨x, n⟩) F w' ∧ Trn base b w w' := by
  obtain ⟨cm, fm, h, hb, hc, hf⟩ := h
  cases cm with
  | none => exact lay_none s x n w h hb hf hs hK
  | some m => exact lay_some s x n w h hb (hc m rfl) hf hs hK
end Go.Proofs.YtigkemkebceacaaDoor
/- A store's chunk: used once more, kept. -/
namespace Go.St10
open Go.RowKit
theorem two_cells {w : World} {g : Nat} {a b : Value} {T : TypeId} (h : w.heap[g]? = some (.cells #[a, b] T (0, 0))) :
    w.cell? ⟨g, 0, none⟩ = some a ∧ w.cell? ⟨g, 1, none⟩ = some b ∧ w.frozen? ⟨g, 0, none⟩ = false ∧ w.frozen? ⟨g, 1, none⟩ = false :=
  ⟨cell_of_row _ _ _ _ _ _ h, cell_of_row _ _ _ _ _ _ h, frozen_of_row _ _ _ _ _ h, frozen_of_row _ _ _ _ _ h⟩
end Go.St10
namespace Go.Proofs.YtigkemkebceacaaDoor
open Go.RowKit Go.Shelf Go.Wire Go.Mk Go.Chunk Go.MapFun Go.St10
attribute [local go_sem] Oper.semAt_some
set_option maxRecDepth 100000 in
set_option maxHeartbeats 1000000 in
theorem use_any {base K b : Nat} {q u : Int} {C : ByteArray → Option Pc} {F : ByteArray → Option Mn} (s : ByteArray) (w : World) (h : StX Tryd.prog 55 base K b q u C F w) (hs : s.size ≤ maxLen) (hK : K < maxLen) (hu : 0 ≤ (pc C s).u ∧ (pc C s).u < 1000000) :
    Calls Tryd.prog 39 #[.pointer (some ⟨b, 0, none⟩), .string s] w fun e w' => e = .returned (.tuple #[]) ∧ StX Tryd.prog 55 base (K + 1) b q u (laid C s ⟨(pc C s).b, (pc C s).u + 1⟩) F w' ∧ Trn base b w w' := by
  have H := hide h
  obtain ⟨cm, fm, h, hb, hc, hf⟩ := h
  obtain ⟨c0, c1, c2, c3⟩ := h.cells
  have hw : base ≤ w.heap.size := Nat.le_of_lt (Nat.lt_of_le_of_lt hb (Array.getElem?_eq_some_iff.1 h.row).1)
  have hl := h.ch.look Tryd.underlying9 Tryd.underlying52 (zeroPc w) false s hs
  rw [got_pc] at hl
  clear h hb hc hf
  generalize pc C s = p at *
  obtain ⟨x, n⟩ := p
  dsimp only at hl hu ⊢
  have hwr : IntKind.i64.wrap (n + 1) = n + 1 := Sha.wrap_i64 _ (by omega) (by omega)
  go_enter Tryd.func39, Tryd.ntmps39
  go_upto_region 1 with fail
  obtain ⟨W, hW⟩ : ∃ W, W = w.alloc (.cells #[.string x, .int .i64 (n + 1)] 69) := ⟨_, rfl⟩
  have hr1 : (w.alloc (.cells #[.string x, .int .i64 n] 69)).heap[w.heap.size]? = some (.cells #[.string x, .int .i64 n] 69 (0, 0)) := heap_alloc_new _ _
  have hrow : W.heap[w.heap.size]? = some (.cells #[.string x, .int .i64 (n + 1)] 69 (0, 0)) := by rw [hW]; exact heap_alloc_new _ _
  have k : Below w.heap.size w W := by rw [hW]; exact (Below.refl _ w).alloc (Nat.le_refl _) _
  obtain ⟨a0, a1, z0, z1⟩ := two_cells hr1
  obtain ⟨d0, d1, y0, y1⟩ := two_cells hrow
  obtain ⟨cm', fm', h', hb', hc', hf'⟩ := H.out
  have HL := hide (lay_any s x (n + 1) W ⟨cm', fm', h'.below k, hb', hc', hf'⟩ hs hK)
  have HW := hide hW.symm
  have HKK := hide (And.intro k hw)
  clear hW h' hb' hc' hf' k hw hr1 hrow hl
  go_upto_region 2 with fail
  rw [HW.out]
  go_wp2_with (go_at_call 44; refine HL.out.mono ?_; rintro e w1 ⟨rfl, hp⟩; have HP := hide hp; clear hp)
  go_end0
  exact ⟨rfl, HP.out.1, (Trn.of_below HKK.out.1 HKK.out.2).trans HP.out.2⟩
end Go.Proofs.YtigkemkebceacaaDoor
/- What the library's copies of a text and of a slice of texts do, at this program: by the shelf's contracts. -/
namespace Go.Proofs.YtigkemkebceacaaDoor
open Go.RowKit Go.Shelf
def cloneL_ren : Go.Shelf.Ren := ⟨fun | 316 => 57 | n => n, fun | 9 => 9 | 3 => 3 | 4 => 4 | 37 => 65 | 0 => 0 | 127 => 101 | 5 => 5 | n => n, fun | n => n⟩
theorem cloneL : Go.Proofs.LaysM.n316 Tryd.prog cloneL_ren := {
  mixed := by kernel_rfl
  f316 := Tryd.func57.trans (congrArg some (by kernel_rfl))
  t0 := Tryd.underlying0
  a0 := Tryd.isAgg0
  z0 := Tryd.sizeOf0
  v0 := Tryd.zeroValue0
  t3 := Tryd.underlying3
  a3 := Tryd.isAgg3
  z3 := Tryd.sizeOf3
  v3 := Tryd.zeroValue3
  t4 := Tryd.underlying4
  a4 := Tryd.isAgg4
  z4 := Tryd.sizeOf4
  v4 := Tryd.zeroValue4
  t9 := Tryd.underlying9
  a9 := Tryd.isAgg9
  z9 := Tryd.sizeOf9
  v9 := Tryd.zeroValue9
  t37 := Tryd.underlying65
  a37 := Tryd.isAgg65
  z37 := Tryd.sizeOf65
  v37 := Tryd.zeroValue65
  t127 := Tryd.underlying101
  a127 := Tryd.isAgg101
  z127 := Tryd.sizeOf101
  v127 := Tryd.zeroValue101
  t5 := Tryd.underlying5
  a5 := Tryd.isAgg5
  z5 := Tryd.sizeOf5
  v5 := Tryd.zeroValue5
  i0 := by kernel_rfl
  i3 := by kernel_rfl
  i4 := by kernel_rfl
  i5 := by kernel_rfl
  i9 := by kernel_rfl
  i37 := by kernel_rfl
  i127 := by kernel_rfl }
def cloneSL_ren : Go.Shelf.Ren := ⟨fun | 16 => 46 | n => n, fun | 24 => 22 | 9 => 9 | 4 => 4 | n => n, fun | n => n⟩
theorem cloneSL : Go.Proofs.Lays2.n16 Tryd.prog cloneSL_ren := {
  mixed := by kernel_rfl
  f16 := Tryd.func46.trans (congrArg some (by kernel_rfl))
  t4 := Tryd.underlying4
  a4 := Tryd.isAgg4
  z4 := Tryd.sizeOf4
  v4 := Tryd.zeroValue4
  t9 := Tryd.underlying9
  a9 := Tryd.isAgg9
  z9 := Tryd.sizeOf9
  v9 := Tryd.zeroValue9
  t24 := Tryd.underlying22
  a24 := Tryd.isAgg22
  z24 := Tryd.sizeOf22
  v24 := Tryd.zeroValue22
  i9 := by kernel_rfl }

end Go.Proofs.YtigkemkebceacaaDoor
/- A store's chunk: its bytes kept. -/
namespace Go.St10
open Go.RowKit Go.MapFun
theorem StX.used {P : Program} {S base K b : Nat} {q u : Int} {C : ByteArray → Option Pc} {F : ByteArray → Option Mn} {w : World} (h : StX P S base K b q u C F w) (u' : Int) :
    StX P S base K b q u' C F (w.setCell ⟨b, 1, none⟩ (.int .i64 u')) ∧ Trn base b w (w.setCell ⟨b, 1, none⟩ (.int .i64 u')) := by
  obtain ⟨cm, fm, h, hb, hc, hf⟩ := h
  have ne : ∀ {m : Option Nat} {y : Nat}, m = some y → (∃ es cl, w.heap[y]? = some (.map es cl)) → y ≠ b := by
    rintro m y - ⟨es, cl, e⟩ rfl
    rw [h.row] at e
    cases e
  refine ⟨⟨cm, fm, ⟨?_, ?_, ?_, h.apart⟩, hb, hc, hf⟩, .set _ _ _ hb⟩
  · rw [heap_setCell_same _ _ _ _ _ _ h.row]
    rfl
  · exact h.ch.kept fun y e => Below.heap_setCell _ _ _ _ (ne e (h.ch.kind e))
  · exact h.fi.kept fun y e => Below.heap_setCell _ _ _ _ (ne e (h.fi.kind e))
theorem StX.cells {P : Program} {S base K b : Nat} {q u : Int} {C : ByteArray → Option Pc} {F : ByteArray → Option Mn} {w : World} (h : StX P S base K b q u C F w) :
    w.cell? ⟨b, 0, none⟩ = some (.int .i64 q) ∧ w.cell? ⟨b, 1, none⟩ = some (.int .i64 u) ∧ w.frozen? ⟨b, 1, none⟩ = false ∧ base ≤ b ∧ b < w.heap.size := by
  obtain ⟨cm, fm, h, hb, -, -⟩ := h
  exact ⟨h.cells.1, h.cells.2.1, frozen_of_row _ _ _ _ _ h.row, hb, (Array.getElem?_eq_some_iff.1 h.row).1⟩
theorem StX.below {P : Program} {S base K b : Nat} {q u : Int} {C : ByteArray → Option Pc} {F : ByteArray → Option Mn} {w w' : World} (h : StX P S base K b q u C F w) (k : Below w.heap.size w w') : StX P S base K b q u C F w' := by
  obtain ⟨cm, fm, h, hb, hc, hf⟩ := h
  exact ⟨cm, fm, h.below k, hb, hc, hf⟩
end Go.St10
namespace Go.Proofs.YtigkemkebceacaaDoor
open Go.RowKit Go.Shelf Go.Wire Go.Mk Go.Chunk Go.MapFun Go.St10
attribute [local go_sem] Oper.semAt_some
theorem clone_any (s : ByteArray) (w : World) (hs : s.size ≤ 281474976710656) :
    Calls Tryd.prog 43 #[.string s] w fun e w' => e = .returned (.string s) ∧ Below w.heap.size w w' := by
  have H := hide (Any.stringslite_Clone cloneL s w hs)
  go_enter Tryd.func43, Tryd.ntmps43
  go_wp2_with (go_at_call 57; refine H.out.mono ?_; rintro e w1 ⟨rfl, hb⟩; have HB := hide hb; clear hb)
  go_ret
  exact ⟨rfl, HB.out⟩
set_option maxRecDepth 100000 in
set_option maxHeartbeats 1000000 in
theorem keep_any {base K b : Nat} {q u : Int} {C : ByteArray → Option Pc} {F : ByteArray → Option Mn} (s c : ByteArray) (w : World) (h : StX Tryd.prog 55 base K b q u C F w) (hs : s.size ≤ maxLen) (hc : c.size ≤ 1000000) (hK : K < maxLen) (hu : 0 ≤ u ∧ u + c.size ≤ 9223372036854775807) :
    Calls Tryd.prog 29 #[.pointer (some ⟨b, 0, none⟩), .string s, .string c] w fun e w' => e = .returned (.tuple #[]) ∧ StX Tryd.prog 55 base (K + 1) b q (u + c.size) (laid C s ⟨c, (pc C s).u⟩) F w' ∧ Trn base b w w' := by
  have H := hide h
  obtain ⟨cm, fm, h, hb, hcm, hf⟩ := h
  obtain ⟨c0, c1, c2, c3⟩ := h.cells
  have hw : base ≤ w.heap.size := Nat.le_of_lt (Nat.lt_of_le_of_lt hb (Array.getElem?_eq_some_iff.1 h.row).1)
  have hl := h.ch.look Tryd.underlying9 Tryd.underlying52 (zeroPc w) false s hs
  rw [got_pc] at hl
  clear h hb hcm hf
  generalize pc C s = p at *
  obtain ⟨x, n⟩ := p
  dsimp only at hl ⊢
  have hwr : IntKind.i64.wrap (u + c.size) = u + c.size := Sha.wrap_i64 _ (by omega) (by omega)
  have HC := hide (clone_any c)
  go_enter Tryd.func29, Tryd.ntmps29
  go_upto_region 1 with fail
  have k0 : Below w.heap.size w (w.alloc (.cells #[.string x, .int .i64 n] 69)) := (Below.refl _ w).alloc (Nat.le_refl _) _
  have hr1 : (w.alloc (.cells #[.string x, .int .i64 n] 69)).heap[w.heap.size]? = some (.cells #[.string x, .int .i64 n] 69 (0, 0)) := heap_alloc_new _ _
  generalize w.alloc (.cells #[.string x, .int .i64 n] 69) = w1 at *
  clear hl c0 c1 c2 c3
  have HR := hide (And.intro k0 hr1)
  clear k0 hr1
  go_upto_region 2 with (go_at_call 43; refine (HC.out w1 (by omega)).mono ?_; rintro e w2 ⟨rfl, hb2⟩; have hr2 := (hb2.block _ (Array.getElem?_eq_some_iff.1 HR.out.2).1).trans HR.out.2; obtain ⟨a0, a1, z0, z1⟩ := two_cells hr2; have H2 := hide (And.intro hb2 hr2); clear hb2 hr2)
  obtain ⟨W, hW⟩ : ∃ W, W = w2.setCell ⟨w.heap.size, 0, none⟩ (.string c) := ⟨_, rfl⟩
  have hrow : W.heap[w.heap.size]? = some (.cells #[.string c, .int .i64 n] 69 (0, 0)) := by rw [hW, heap_setCell_same _ _ _ _ _ _ H2.out.2]; rfl
  have k : Below w.heap.size w W := by rw [hW]; exact (HR.out.1.trans (H2.out.1.mono HR.out.1.size)).setCell (Nat.le_refl _) _
  rw [← hW]
  obtain ⟨d0, d1, y0, y1⟩ := two_cells hrow
  have HL := hide (lay_any s c n W (H.out.below k) hs hK)
  have HKK := hide (And.intro k hw)
  clear hW k hw hrow HR H2 HC H a0 a1 z0 z1
  go_upto_region 3 with (go_at_call 44; refine HL.out.mono ?_; rintro e w3 ⟨rfl, hp⟩; obtain ⟨b0, b1, bf, -, -⟩ := hp.1.cells; have HP := hide hp; clear hp)
  clear d0 d1 y0 y1 HL
  go_wp2_with fail
  go_end0
  obtain ⟨h5, t5⟩ := HP.out.1.used (u + c.size)
  exact ⟨rfl, h5, ((Trn.of_below HKK.out.1 HKK.out.2).trans HP.out.2).trans t5⟩
end Go.Proofs.YtigkemkebceacaaDoor
/- A manifest with a list of its own. -/
namespace Go.St10
open Go.RowKit
theorem two_set {w : World} {g : Nat} {a b : Value} {T : TypeId} (h : w.heap[g]? = some (.cells #[a, b] T (0, 0))) (x y : Value) :
    ((w.setCell ⟨g, 0, none⟩ x).setCell ⟨g, 1, none⟩ y).heap[g]? = some (.cells #[x, y] T (0, 0)) := by
  have h1 : (w.setCell ⟨g, 0, none⟩ x).heap[g]? = some (.cells #[x, b] T (0, 0)) := by rw [heap_setCell_same _ _ _ _ _ _ h]; rfl
  rw [heap_setCell_same _ _ _ _ _ _ h1]
  rfl
theorem own_low {w : World} {base e k n b : Nat} {v : Value} {xs : List Value} (h : w.ownsRow base e k v n xs) (hb : b < base) (i : Nat) (x : Value) : (w.setCell ⟨b, i, none⟩ x).ownsRow base e k v n xs := by
  refine h.kept (Lib.grownBy_setCell w b i x) (.inr fun e => ?_)
  have := (h.lt _ e).1
  omega
theorem own_from {w : World} {B B' e k n : Nat} {v : Value} {xs : List Value} (h : w.ownsRow B e k v n xs) (hle : B' ≤ B) : w.ownsRow B' e k v n xs := by
  obtain ⟨h0, h | ⟨g, cap, cur, h1, h2, h3⟩⟩ := h
  · exact ⟨h0, .inl h⟩
  · exact ⟨h0, .inr ⟨g, cap, cur, h1, Nat.le_trans hle h2, h3⟩⟩
end Go.St10
namespace Go.Proofs.YtigkemkebceacaaDoor
open Go.RowKit Go.Shelf Go.Wire Go.Mk Go.Chunk Go.MapFun Go.St10
attribute [local go_sem] Oper.semAt_some
theorem clones_any (v : Value) (xs : List ByteArray) (w : World) (h : StrRow.Reads w v xs) (hn : xs.length ≤ 1000) :
    Calls Tryd.prog 46 #[v] w fun e w' => ∃ v', e = .returned v' ∧ w'.ownsRow w.heap.size 9 1 v' xs.length (xs.map Value.string) ∧ Below w.heap.size w w' := by
  rcases h with ⟨⟨a, cap, rfl⟩, rfl⟩ | ⟨b, off, cap, rfl, h2, h3, h4⟩
  · cases a with
    | none =>
      refine (Any.slices_Clone_string_nil cloneSL 0 cap w).mono ?_
      rintro e w' ⟨rfl, rfl⟩
      exact ⟨_, rfl, World.ownsRow_nil _ _ _ _, Below.refl _ _⟩
    | some a =>
      refine (Any.slices_Clone_string_zero cloneSL a cap w).mono ?_
      rintro e w' ⟨v', rfl, ho, -, hb⟩
      exact ⟨_, rfl, ho, hb⟩
  · refine (Any.slices_Clone_string cloneSL b off xs.length cap xs w (Nat.le_refl _) (by omega) fun j hj => ?_).mono ?_
    · rw [h4 j xs[j] (List.getElem?_eq_getElem hj)]
      simp [List.getD, List.getElem?_eq_getElem hj]
    · rintro e w' ⟨v', rfl, ho, -, hb⟩
      rw [List.take_length] at ho
      exact ⟨_, rfl, ho, hb⟩
set_option maxRecDepth 100000 in
set_option maxHeartbeats 1000000 in
theorem own_any (size : Int) (v : Value) (xs : List ByteArray) (w : World) (h : StrRow.Reads w v xs) (hn : xs.length ≤ 1000) :
    Calls Tryd.prog 32 #[.agg #[.int .i64 size, v]] w fun e w' => ∃ v', e = .returned (.agg #[.int .i64 size, v']) ∧ w'.ownsRow w.heap.size 9 1 v' xs.length (xs.map Value.string) ∧ Below w.heap.size w w' := by
  obtain ⟨a, c, rfl⟩ := h.form
  have k1 : Below w.heap.size w (w.alloc (.cells #[.int .i64 size, .slice a xs.length c] 24)) := (Below.refl _ w).alloc (Nat.le_refl _) _
  go_enter Tryd.func32, Tryd.ntmps32
  go_upto_region 1 with fail
  have k2 : Below w.heap.size w ((w.alloc (.cells #[.int .i64 size, .slice a xs.length c] 24)).alloc (.cells #[.int .i64 0, .slice none 0 0] 24)) := k1.alloc k1.size _
  have hr1 : ((w.alloc (.cells #[.int .i64 size, .slice a xs.length c] 24)).alloc (.cells #[.int .i64 0, .slice none 0 0] 24)).heap[w.heap.size]? = some (.cells #[.int .i64 size, .slice a xs.length c] 24 (0, 0)) :=
    (Below.heap_alloc _ _ _ (by simp)).trans (heap_alloc_new _ _)
  have hr2 : ((w.alloc (.cells #[.int .i64 size, .slice a xs.length c] 24)).alloc (.cells #[.int .i64 0, .slice none 0 0] 24)).heap[w.heap.size + 1]? = some (.cells #[.int .i64 0, .slice none 0 0] 24 (0, 0)) := by
    have e : (w.alloc (.cells #[.int .i64 size, .slice a xs.length c] 24)).heap.size = w.heap.size + 1 := by simp
    rw [← e]
    exact heap_alloc_new _ _
  generalize (w.alloc (.cells #[.int .i64 size, .slice a xs.length c] 24)).alloc (.cells #[.int .i64 0, .slice none 0 0] 24) = w1 at *
  obtain ⟨a0, a1, z0, z1⟩ := two_cells hr1
  have HC := hide (clones_any _ xs w1 (h.below k2 (Nat.le_refl _)) hn)
  have H1 := hide (And.intro k2 (And.intro hr1 hr2))
  clear h k1 k2 hr1 hr2
  go_upto_region 2 with (go_at_call 46; refine HC.out.mono ?_; rintro e w2 ⟨v', rfl, ho, hb2⟩; have q1 := (hb2.block _ (Array.getElem?_eq_some_iff.1 H1.out.2.1).1).trans H1.out.2.1; have q2 := (hb2.block _ (Array.getElem?_eq_some_iff.1 H1.out.2.2).1).trans H1.out.2.2; obtain ⟨b0, b1, y0, y1⟩ := two_cells q1; obtain ⟨a', c', rfl⟩ := (StrRow.Reads.of_own ho).form; have H2 := hide (And.intro hb2 (And.intro ho (And.intro q1 q2))); clear hb2 ho q1 q2)
  obtain ⟨W, hW⟩ : ∃ W, W = w2.setCell ⟨w.heap.size, 1, none⟩ (.slice a' xs.length c') := ⟨_, rfl⟩
  have hl1 : w.heap.size < w1.heap.size := (Array.getElem?_eq_some_iff.1 H1.out.2.1).1
  have hl2 : w.heap.size + 1 < w1.heap.size := (Array.getElem?_eq_some_iff.1 H1.out.2.2).1
  have r1 : W.heap[w.heap.size]? = some (.cells #[.int .i64 size, .slice a' xs.length c'] 24 (0, 0)) := by rw [hW, heap_setCell_same _ _ _ _ _ _ H2.out.2.2.1]; rfl
  have r2 : W.heap[w.heap.size + 1]? = some (.cells #[.int .i64 0, .slice none 0 0] 24 (0, 0)) := by rw [hW]; exact (Below.heap_setCell _ _ _ _ (Nat.succ_ne_self _)).trans H2.out.2.2.2
  have kW : Below w.heap.size w W := by rw [hW]; exact (H1.out.1.trans (H2.out.1.mono (Nat.le_of_lt hl1))).setCell (Nat.le_refl _) _
  have oW : W.ownsRow w1.heap.size 9 1 (.slice a' xs.length c') xs.length (xs.map Value.string) := by
    rw [hW]
    exact own_low H2.out.2.1 hl1 1 _
  rw [← hW]
  obtain ⟨d0, d1, x0, x1⟩ := two_cells r1
  obtain ⟨f0, f1, g0, g1⟩ := two_cells r2
  have HW := hide (And.intro kW (And.intro oW (And.intro r1 r2)))
  have HLT := hide (And.intro hl1 hl2)
  clear hW hl1 hl2 r1 r2 kW oW b0 b1 y0 y1 a0 a1 z0 z1
  go_wp2_with fail
  obtain ⟨kW, oW, r1, r2⟩ := HW.out
  obtain ⟨hl1, hl2⟩ := HLT.out
  have r3 := two_set r2 (.int .i64 size) (.slice a' xs.length c')
  have o3 := own_low oW hl2 0 (.int .i64 size)
  have o4 := own_low o3 hl2 1 (.slice a' xs.length c')
  exact bodyPost_ret (results_cell_row Tryd.results32 _ _ _ _ _ (0, 0) _ rfl r3 Tryd.underlying24 rfl infoMan) rfl ⟨_, rfl, own_from o4 (Nat.le_of_lt hl1), (kW.setCell (p := ⟨w.heap.size + 1, 0, none⟩) (Nat.le_succ _) _).setCell (p := ⟨w.heap.size + 1, 1, none⟩) (Nat.le_succ _) _⟩
end Go.Proofs.YtigkemkebceacaaDoor
