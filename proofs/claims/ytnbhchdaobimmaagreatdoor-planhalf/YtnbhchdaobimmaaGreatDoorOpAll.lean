/- Several texts in one: OpLeaves, OpCheck, OpCheck2, OpRefCheck. -/
import Derived.Test.YtnbhchdaobimmaaGreatDoorWirePure
import Derived.Test.YtnbhchdaobimmaaGreatDoorStampAll
import Derived.Deep.MidRow
import Derived.Deep.Cut
import Derived.Deep.CutBlock
import Derived.Deep.DeepCutAuto
import Derived.Test.YtnbhchdaobimmaaGreatDoorRunAB
/- Contracts of the operations' small functions. -/
namespace Go.Opn
open Go.RowKit Go.Wire Go.Stamp
/-- An operation's cells. -/
abbrev Ob.cs (o : Ob) : Array Value := #[.int .i64 o.kind, .int .u64 o.tm.c, .int .i64 o.tm.k, .int .u64 o.thing, .int .u64 o.par, .string o.name, .bool o.dir, .string o.dg, .int .i64 o.size]
theorem cells9 {w : World} {g : Nat} {o : Ob} {T : TypeId} (h : w.heap[g]? = some (.cells o.cs T (0, 0))) :
  w.cell? ⟨g, 0, none⟩ = some (.int .i64 o.kind) ∧ w.cell? ⟨g, 1, none⟩ = some (.int .u64 o.tm.c) ∧ w.cell? ⟨g, 2, none⟩ = some (.int .i64 o.tm.k) ∧ w.cell? ⟨g, 3, none⟩ = some (.int .u64 o.thing) ∧ w.cell? ⟨g, 4, none⟩ = some (.int .u64 o.par) ∧
  w.cell? ⟨g, 5, none⟩ = some (.string o.name) ∧ w.cell? ⟨g, 6, none⟩ = some (.bool o.dir) ∧ w.cell? ⟨g, 7, none⟩ = some (.string o.dg) ∧ w.cell? ⟨g, 8, none⟩ = some (.int .i64 o.size) :=
 ⟨cell_of_row _ _ _ _ _ _ h, cell_of_row _ _ _ _ _ _ h, cell_of_row _ _ _ _ _ _ h, cell_of_row _ _ _ _ _ _ h, cell_of_row _ _ _ _ _ _ h, cell_of_row _ _ _ _ _ _ h, cell_of_row _ _ _ _ _ _ h, cell_of_row _ _ _ _ _ _ h, cell_of_row _ _ _ _ _ _ h⟩
theorem eq_step {P : Program} {w : World} {d : Nat} {xs ys : Array Value} {f : Field} {fs : List Field} {x y : Value} {r q : Bool} (hn : f.name ≠ "_") (hx : (part f.type xs f.offset).run P w = .ok x w) (hy : (part f.type ys f.offset).run P w = .ok y w)
  (he : (Op.equalIn d f.type x y).run P w = .ok r w) (rest : (Op.eqFields d xs ys fs).run P w = .ok q w) : (Op.eqFields d xs ys (f :: fs)).run P w = .ok (r && q) w := by
 simp only [Op.eqFields, if_pos hn, Sem.run_bind, hx, hy, he, Result.andThen_ok, Sem.run_ite, rest]
 cases r
 ·simp
 ·simp
theorem range_tm {w : World} {g : Nat} {o : Ob} {T : TypeId} (h : w.heap[g]? = some (.cells o.cs T (0, 0))) : w.rangeAt g 1 [.int .u64 o.tm.c, .int .i64 o.tm.k] := by
 intro j v hj
 match j, hj with
 | 0, hj => cases hj; exact (cells9 h).2.1
 | 1, hj => cases hj; exact (cells9 h).2.2.1
end Go.Opn
namespace Go.QuietCalls
open Go.RowKit Go.Sort
/-- A struct that lies in the midst of a block is loaded. -/
theorem loadMid {P : Program} {ops : Array Oper} {W : World} {Q : Act → Prop} {rest : List Oper} {o : Oper} {a : Act} (hgd : Region.wanted o (yielded ops a.tmps) = true) (ty : TypeId) (x : Operand) (ho : o.op = .load ty x)
  (g off : Nat) (hx : a.eval x = .pointer (some ⟨g, off, none⟩)) (cs : List Value) (d : TypeDesc) (hc : ∀ w, Below W.heap.size W w → w.rangeAt g off cs)
  (hu : P.underlying ty = some d) (hd : d.isRow = true) (hi : (P.info? ty).map (·.size) = some cs.length)
  (h : wpQuiet P ops (fun w' => ∃ p : Regrown, w' = grow (redrawn W p.d) p.os) Q rest (a.put o.dst (.agg cs.toArray))) : wpQuiet P ops (fun w' => ∃ p : Regrown, w' = grow (redrawn W p.d) p.os) Q (o :: rest) a := by
 refine wpQuiet_step fun K hK => ?_
 rw [if_pos hgd]
 refine ⟨.agg cs.toArray, fun w hw0 => ?_, hK _ h⟩
 have hw : Below W.heap.size W w := by obtain ⟨p, rfl⟩ := hw0; exact below_regrown _ _ _
 unfold Oper.quietAt execOp
 simp only [ho, hx, Instr.loadAt, Instr.sureAddr, Sem.run_bind, Sem.run_pure, Result.andThen_ok, run_loadVar_mid w g off ty cs d (hc w hw) hu hd hi]
 exact ⟨rfl, rfl⟩
end Go.QuietCalls
namespace Go.Proofs.YtnbhchdaobimmaaGreatDoor
open Go.RowKit Go.Wire Go.Stamp Go.Opn
set_option maxRecDepth 100000 in
theorem infoROp : (Tryz.prog.info? 57).map (·.size) = some 9 := by kernel_rfl
end Go.Proofs.YtnbhchdaobimmaaGreatDoor
/- Contracts: whether an operation may be, the program's and the document's; an operation as the document has it. -/
namespace Go.Opn
open Go.RowKit Go.Wire Go.Stamp
end Go.Opn
namespace Go.Proofs.YtnbhchdaobimmaaGreatDoor
open Go.RowKit Go.Wire Go.Stamp Go.Opn
end Go.Proofs.YtnbhchdaobimmaaGreatDoor
/- Contracts: whether an operation may be, the program's. -/
namespace Go.Proofs.YtnbhchdaobimmaaGreatDoor
open Go.RowKit Go.Wire Go.Stamp Go.Opn
end Go.Proofs.YtnbhchdaobimmaaGreatDoor
/- Contracts: whether an operation may be, the document's; an operation as the document has it. -/
namespace Go.Opn
open Go.Wire Go.Stamp
theorem toList_nil (x : ByteArray) : x.toList = [] ↔ x = ⟨#[]⟩ := by
 rw [ByteArray.toList_eq]
 exact ⟨fun h => ext_list (h.trans rfl), fun h => by rw [h]⟩
theorem nil_size (x : ByteArray) : x.toList = [] ↔ ¬ 1 ≤ x.size := by
 rw [ByteArray.toList_eq, size_list]
 cases x.data.toList <;> simp
theorem place_cases (p th : Int) (n : ByteArray) (H : Bool) (h : ((p == 0 || made p) && !(p == th) && decide (1 ≤ n.size) && decide (n.size ≤ 32)) = H) :
  ((p == 0) = false ∧ made p = false ∧ H = false) ∨
  ((((p == 0) = true) ∨ ((p == 0) = false ∧ made p = true)) ∧ (((p != th) = false ∧ H = false) ∨ ((p != th) = true ∧ ((n.toList = [] ∧ H = false) ∨ (¬ n.toList = [] ∧ decide ((n.size : Int) ≤ 32) = H))))) := by
 have hx : (p != th) = !(p == th) := rfl
 rw [hx, nil_size]
 have e : decide ((n.size : Int) ≤ 32) = decide (n.size ≤ 32) := by congr 1; exact propext (by omega)
 rw [e]
 cases h1 : (p == 0)
 ·cases h2 : made p
  ·rw [h1, h2] at h; exact .inl ⟨rfl, rfl, h.symm⟩
  ·rw [h1, h2] at h
   refine .inr ⟨.inr ⟨rfl, rfl⟩, ?_⟩
   cases h3 : (p == th)
   ·rw [h3] at h
    refine .inr ⟨rfl, ?_⟩
    by_cases h4 : 1 ≤ n.size
    ·rw [decide_eq_true h4] at h; exact .inr ⟨fun x => x h4, h⟩
    ·rw [decide_eq_false h4] at h; exact .inl ⟨h4, h.symm⟩
   ·rw [h3] at h; exact .inl ⟨rfl, h.symm⟩
 ·rw [h1] at h
  refine .inr ⟨.inl rfl, ?_⟩
  cases h3 : (p == th)
  ·rw [h3] at h
   refine .inr ⟨rfl, ?_⟩
   by_cases h4 : 1 ≤ n.size
   ·rw [decide_eq_true h4] at h; exact .inr ⟨fun x => x h4, h⟩
   ·rw [decide_eq_false h4] at h; exact .inl ⟨h4, h.symm⟩
  ·rw [h3] at h; exact .inl ⟨rfl, h.symm⟩
/-- What the document asks is what the program asks. -/
theorem Ob.good_doc (o : Ob) (m : Bool) (hm : made o.thing = m) (e : Bool) (he : (decide (o.dg.toList = []) && o.size == 0) = e) (h : Bool) (hh : o.place = h) (n : Bool) (hn : (o.par == 0 && (decide (o.name.toList = []) && !o.dir)) = n) :
  o.good = if o.kind = 1 then m && e && h && o.thing == o.tm.thing else if o.kind = 2 then m && e && h && !o.dir else if o.kind = 3 then m && e && n else if o.kind = 4 then m && n && o.fill else false := by
 subst hm he hh hn
 unfold Ob.good Ob.fits
 have key : o.eqb o.own = if o.kind = 1 then decide (o.dg.toList = []) && o.size == 0 else if o.kind = 2 then decide (o.dg.toList = []) && o.size == 0 && !o.dir else if o.kind = 4 then o.par == 0 && (decide (o.name.toList = []) && !o.dir) else decide (o.dg.toList = []) && o.size == 0 && (o.par == 0 && (decide (o.name.toList = []) && !o.dir)) := by
  rw [Bool.eq_iff_iff, Ob.eqb_iff]
  obtain ⟨k, t, th, p, n, d, g, z⟩ := o
  unfold Ob.own
  dsimp only
  split
  ·simp [toList_nil]
  ·split
   ·simp [toList_nil]; constructor <;> (intro h; simp [h])
   ·split
    ·simp [toList_nil]
    ·simp [toList_nil]; constructor <;> (intro h; simp [h])
 rw [key]
 by_cases k1 : o.kind = 1
 ·rw [if_pos k1, if_pos k1, if_pos k1]
  cases made o.thing <;> cases o.place <;> cases (decide (o.dg.toList = []) && o.size == 0) <;> simp
 rw [if_neg k1, if_neg k1, if_neg k1]
 by_cases k2 : o.kind = 2
 ·rw [if_pos k2, if_pos k2, if_pos k2]
  cases made o.thing <;> cases o.place <;> cases (decide (o.dg.toList = []) && o.size == 0) <;> simp
 rw [if_neg k2, if_neg k2, if_neg k2]
 by_cases k3 : o.kind = 3
 ·rw [if_pos k3, if_pos k3, if_neg (by omega)]
  cases made o.thing <;> simp
 rw [if_neg k3, if_neg k3]
 by_cases k4 : o.kind = 4
 ·rw [if_pos k4, if_pos k4, if_pos k4]
  cases made o.thing <;> cases o.fill <;> simp
 rw [if_neg k4, if_neg k4, if_neg k4]
 simp
theorem fill_cases (g : ByteArray) (z : Int) (F : Bool) (h : (g.size == 32 && decide (0 ≤ z) && decide (z ≤ 8192)) = F) :
  (((g.size : Int) == 32) = false ∧ F = false) ∨ (((g.size : Int) == 32) = true ∧ ((z < 0 ∧ F = false) ∨ (0 ≤ z ∧ decide (z ≤ 8192) = F))) := by
 have e : ((g.size : Int) == 32) = (g.size == 32) := by rw [Bool.eq_iff_iff, beq_iff_eq, beq_iff_eq]; omega
 rw [e]
 cases h1 : (g.size == 32)
 ·rw [h1] at h; exact .inl ⟨rfl, h.symm⟩
 ·rw [h1] at h
  refine .inr ⟨rfl, ?_⟩
  by_cases h2 : 0 ≤ z
  ·rw [decide_eq_true h2] at h; exact .inr ⟨h2, h⟩
  ·rw [decide_eq_false h2] at h; exact .inl ⟨by omega, h.symm⟩
end Go.Opn
namespace Go.Proofs.YtnbhchdaobimmaaGreatDoor
open Go.RowKit Go.Wire Go.Stamp Go.Opn
set_option maxRecDepth 100000 in
set_option maxHeartbeats 1000000 in
theorem rcheckOp_any (o : Ob) (hc : 0 ≤ o.tm.c) (w : World) :
  Calls Tryz.prog 20 #[o.v] w fun e w' => e = .returned (.int .i64 o.chk) ∧ Below w.heap.size w w' := by
 have HC : Hid (∀ w, Calls Tryz.prog 46 #[o.tm.v] w fun e w' => e = .returned (.int .i64 o.tm.chk) ∧ Below w.heap.size w w') := fun w => rcheck_any o.tm hc w
 have HM : Hid (∀ n w, Calls Tryz.prog 47 #[.int .u64 n] w fun e w' => e = .returned (.bool (made n)) ∧ w' = w) := fun n w => rmade_any n w
 have HT : Hid (∀ w, Calls Tryz.prog 48 #[o.tm.v] w fun e w' => e = .returned (.int .u64 o.tm.thing) ∧ Below w.heap.size w w') := fun w => rthing_any o.tm hc w
 unfold Tm.v at HC HT
 unfold Ob.v
 by_cases hok : o.tm.Ok
 ·rw [Tm.chk_ok hok] at HC
  have hchk : o.chk = if o.good = true then 0 else 50 := by unfold Ob.chk; rw [if_pos hok]
  rw [hchk]
  clear hchk hok
  have HG : Hid (∀ m, made o.thing = m → ∀ e, (decide (o.dg.toList = []) && o.size == 0) = e → ∀ h, o.place = h → ∀ n, (o.par == 0 && (decide (o.name.toList = []) && !o.dir)) = n → o.good = if o.kind = 1 then m && e && h && o.thing == o.tm.thing else if o.kind = 2 then m && e && h && !o.dir else if o.kind = 3 then m && e && n else if o.kind = 4 then m && n && o.fill else false) := fun m hm e he h hh n hn => o.good_doc m hm e he h hh n hn
  generalize o.good = G at HG
  obtain ⟨kd, ⟨c, k⟩, th, p, n, d, g, z⟩ := o
  dsimp only at HC HM HT HG ⊢
  have HMt : Hid (∀ w, Calls Tryz.prog 47 #[.int .u64 th] w fun e w' => e = .returned (.bool (made th)) ∧ w' = w) := fun w => HM.out th w
  have HMp : Hid (∀ w, Calls Tryz.prog 47 #[.int .u64 p] w fun e w' => e = .returned (.bool (made p)) ∧ w' = w) := fun w => HM.out p w
  clear HM
  obtain ⟨m, hm⟩ : ∃ m, made th = m := ⟨_, rfl⟩
  have HG : Hid _ := HG.out m hm
  rw [hm] at HMt
  clear hm
  obtain ⟨E, hE⟩ : ∃ E, (decide (g.toList = []) && z == 0) = E := ⟨_, rfl⟩
  obtain ⟨H, hH⟩ : ∃ H, (Ob.mk kd ⟨c, k⟩ th p n d g z).place = H := ⟨_, rfl⟩
  obtain ⟨N, hN⟩ : ∃ N, (p == 0 && (decide (n.toList = []) && !d)) = N := ⟨_, rfl⟩
  have hG := HG.out E hE H hH N hN
  have HE : Hid ((decide (g.toList = []) && z == 0) = E) := hE
  have HH : Hid ((Ob.mk kd ⟨c, k⟩ th p n d g z).place = H) := hH
  have HN : Hid ((p == 0 && (decide (n.toList = []) && !d)) = N) := hN
  replace hG : Hid _ := hG
  clear hE hH hN HG
  go_enter Tryz.func20, Tryz.ntmps20
  go_upto_region 5 with (first
   | (go_at_call 46; refine (HC.out _).mono ?_; rintro e w1 ⟨rfl, k1⟩; have HW : Hid (w1.heap[w.heap.size]? = some (.cells (Ob.mk kd ⟨c, k⟩ th p n d g z).cs 57 (0, 0)) ∧ Below w.heap.size w w1) := ⟨kept_block (heap_alloc_new _ _) k1, below_alloc_call k1⟩; obtain ⟨c0, c1, c2, c3, c4, c5, c6, c7, c8⟩ := cells9 HW.out.1; clear k1)
   | (go_at_call 47; refine (HMt.out _).mono ?_; rintro e w1 ⟨rfl, rfl⟩))
  go_cut [5] (fun v wx => v = .bool E ∧ wx = w1)
  case first =>
   have HE := HE.out
   by_cases hg : g.toList = []
   ·rw [decide_eq_true hg, Bool.true_and] at HE
    subst HE
    go_wp2
    go_meet
    exact ⟨rfl, rfl⟩
   ·rw [decide_eq_false hg, Bool.false_and] at HE
    subst HE
    go_wp2
    go_meet
    exact ⟨rfl, rfl⟩
  case rest =>
   obtain ⟨rfl, rfl⟩ := hcut
   clear HE
   go_upto_region 6 with fail
   go_cut [6] (fun v wx => v = .bool H ∧ wx = wc)
   case first =>
    rcases place_cases p th n H HH.out with ⟨h1, h2, rfl⟩ | ⟨h1 | ⟨h1, h2⟩, ⟨h3, rfl⟩ | ⟨h3, ⟨h4, rfl⟩ | ⟨h4, rfl⟩⟩⟩
    all_goals (
     first | rw [h2] at HMp | skip
     first | clear h2 | skip
     clear HH hG HN
     go_wp2_with (go_at_call 47; refine (HMp.out _).mono ?_; rintro e wc ⟨rfl, rfl⟩)
     go_meet
     first | exact ⟨rfl, rfl⟩ | exact ⟨by simp [h4], rfl⟩)
   case rest =>
    obtain ⟨rfl, rfl⟩ := hcut
    clear HH
    go_upto_region 7 with fail
    go_cut [7] (fun v wx => v = .bool N ∧ wx = wc)
    case first =>
     have HN := HN.out
     cases hp : (p == 0)
     ·rw [hp, Bool.false_and] at HN
      subst HN
      go_wp2
      go_meet
      exact ⟨rfl, rfl⟩
     ·rw [hp, Bool.true_and] at HN
      by_cases hn : n.toList = []
      ·rw [decide_eq_true hn, Bool.true_and] at HN
       subst HN
       go_wp2
       go_meet
       exact ⟨rfl, rfl⟩
      ·rw [decide_eq_false hn, Bool.false_and] at HN
       subst HN
       go_wp2
       go_meet
       exact ⟨rfl, rfl⟩
    case rest =>
     obtain ⟨rfl, rfl⟩ := hcut
     clear HN
     replace hG := hG.out
     generalize (Tm.mk c k).thing = t at HT hG
     by_cases k1 : kd = 1
     ·rw [if_pos k1] at hG
      subst k1
      have c3' := cell_regrown c3
      cases m
      ·rw [Bool.false_and, Bool.false_and, Bool.false_and] at hG
       subst hG
       go_wp2_with fail
       refine QuietCalls.region (by kernel_rfl) (by kernel_rfl) ?_
       first | go_big_quiet_step (fail) | quiet_step (fail)
       first | go_big_quiet_step (fail) | quiet_step (fail)
       first | go_big_quiet_step (fail) | quiet_step (fail)
       first | go_big_quiet_step (fail) | quiet_step (fail)
       first | go_big_quiet_step (fail) | quiet_step (fail)
       first | go_big_quiet_step (fail) | quiet_step (fail)
       first | go_big_quiet_step (fail) | quiet_step (fail)
       first | go_big_quiet_step (fail) | quiet_step (fail)
       first | go_big_quiet_step (fail) | quiet_step (fail)
       first | go_big_quiet_step (fail) | quiet_step (fail)
       first | go_big_quiet_step (fail) | quiet_step (fail)
       first | go_big_quiet_step (fail) | quiet_step (fail)
       first | go_big_quiet_step (fail) | quiet_step (fail)
       first | go_big_quiet_step (fail) | quiet_step (fail)
       first | go_big_quiet_step (fail) | quiet_step (fail)
       first | go_big_quiet_step (fail) | quiet_step (fail)
       refine wpQuiet_nil ?_
       intro w2 k2
       go_wp2_with fail
       go_ret
       exact ⟨rfl, HW.out.2.trans (k2.mono HW.out.2.size)⟩
      cases E
      ·rw [Bool.and_false, Bool.false_and, Bool.false_and] at hG
       subst hG
       go_wp2_with fail
       refine QuietCalls.region (by kernel_rfl) (by kernel_rfl) ?_
       first | go_big_quiet_step (fail) | quiet_step (fail)
       first | go_big_quiet_step (fail) | quiet_step (fail)
       first | go_big_quiet_step (fail) | quiet_step (fail)
       first | go_big_quiet_step (fail) | quiet_step (fail)
       first | go_big_quiet_step (fail) | quiet_step (fail)
       first | go_big_quiet_step (fail) | quiet_step (fail)
       first | go_big_quiet_step (fail) | quiet_step (fail)
       first | go_big_quiet_step (fail) | quiet_step (fail)
       first | go_big_quiet_step (fail) | quiet_step (fail)
       first | go_big_quiet_step (fail) | quiet_step (fail)
       first | go_big_quiet_step (fail) | quiet_step (fail)
       first | go_big_quiet_step (fail) | quiet_step (fail)
       first | go_big_quiet_step (fail) | quiet_step (fail)
       first | go_big_quiet_step (fail) | quiet_step (fail)
       first | go_big_quiet_step (fail) | quiet_step (fail)
       first | go_big_quiet_step (fail) | quiet_step (fail)
       refine wpQuiet_nil ?_
       intro w2 k2
       go_wp2_with fail
       go_ret
       exact ⟨rfl, HW.out.2.trans (k2.mono HW.out.2.size)⟩
      cases H
      ·rw [Bool.and_false, Bool.false_and] at hG
       subst hG
       go_wp2_with fail
       refine QuietCalls.region (by kernel_rfl) (by kernel_rfl) ?_
       first | go_big_quiet_step (fail) | quiet_step (fail)
       first | go_big_quiet_step (fail) | quiet_step (fail)
       first | go_big_quiet_step (fail) | quiet_step (fail)
       first | go_big_quiet_step (fail) | quiet_step (fail)
       first | go_big_quiet_step (fail) | quiet_step (fail)
       first | go_big_quiet_step (fail) | quiet_step (fail)
       first | go_big_quiet_step (fail) | quiet_step (fail)
       first | go_big_quiet_step (fail) | quiet_step (fail)
       first | go_big_quiet_step (fail) | quiet_step (fail)
       first | go_big_quiet_step (fail) | quiet_step (fail)
       first | go_big_quiet_step (fail) | quiet_step (fail)
       first | go_big_quiet_step (fail) | quiet_step (fail)
       first | go_big_quiet_step (fail) | quiet_step (fail)
       first | go_big_quiet_step (fail) | quiet_step (fail)
       first | go_big_quiet_step (fail) | quiet_step (fail)
       first | go_big_quiet_step (fail) | quiet_step (fail)
       refine wpQuiet_nil ?_
       intro w2 k2
       go_wp2_with fail
       go_ret
       exact ⟨rfl, HW.out.2.trans (k2.mono HW.out.2.size)⟩
      rw [Bool.true_and, Bool.true_and, Bool.true_and] at hG
      by_cases ht : th = t
      ·rw [beq_iff_eq.2 ht] at hG
       replace ht : (th == t) = true := beq_iff_eq.2 ht
       subst hG
       go_wp2_with fail
       refine QuietCalls.region (by kernel_rfl) (by kernel_rfl) ?_
       first | go_big_quiet_step (fail) | quiet_step (fail)
       first | go_big_quiet_step (fail) | quiet_step (fail)
       first | go_big_quiet_step (fail) | quiet_step (fail)
       first | go_big_quiet_step (fail) | quiet_step (fail)
       first | go_big_quiet_step (fail) | quiet_step (fail)
       first | go_big_quiet_step (fail) | quiet_step (fail)
       first | go_big_quiet_step (fail) | quiet_step (fail)
       first | go_big_quiet_step (fail) | quiet_step (fail)
       first | go_big_quiet_step (fail) | quiet_step (fail)
       first | go_big_quiet_step (fail) | quiet_step (fail)
       first | go_big_quiet_step (fail) | quiet_step (fail)
       refine QuietCalls.loadMid rfl 55 _ rfl _ _ rfl [.int .u64 c, .int .i64 k] _ (fun w k => range_tm (kept_block HW.out.1 k)) Tryz.underlying55 rfl info27 ?_; simp only [Act.put, List.setIfInBounds_toArray, List.set_cons_succ, List.set_cons_zero]
       refine QuietCalls.call1 rfl rfl Tryz.call48 (fun w _ => HT.out w) rfl ?_; simp only [Act.put, List.setIfInBounds_toArray, List.set_cons_succ, List.set_cons_zero]
       first | go_big_quiet_step (fail) | quiet_step (fail)
       first | go_big_quiet_step (fail) | quiet_step (fail)
       first | go_big_quiet_step (fail) | quiet_step (fail)
       refine wpQuiet_nil ?_
       intro w2 k2
       go_wp2_with fail
       go_ret
       exact ⟨rfl, HW.out.2.trans (k2.mono HW.out.2.size)⟩
      ·rw [beq_eq_false_iff_ne.2 ht] at hG
       replace ht : (th == t) = false := beq_eq_false_iff_ne.2 ht
       subst hG
       go_wp2_with fail
       refine QuietCalls.region (by kernel_rfl) (by kernel_rfl) ?_
       first | go_big_quiet_step (fail) | quiet_step (fail)
       first | go_big_quiet_step (fail) | quiet_step (fail)
       first | go_big_quiet_step (fail) | quiet_step (fail)
       first | go_big_quiet_step (fail) | quiet_step (fail)
       first | go_big_quiet_step (fail) | quiet_step (fail)
       first | go_big_quiet_step (fail) | quiet_step (fail)
       first | go_big_quiet_step (fail) | quiet_step (fail)
       first | go_big_quiet_step (fail) | quiet_step (fail)
       first | go_big_quiet_step (fail) | quiet_step (fail)
       first | go_big_quiet_step (fail) | quiet_step (fail)
       first | go_big_quiet_step (fail) | quiet_step (fail)
       refine QuietCalls.loadMid rfl 55 _ rfl _ _ rfl [.int .u64 c, .int .i64 k] _ (fun w k => range_tm (kept_block HW.out.1 k)) Tryz.underlying55 rfl info27 ?_; simp only [Act.put, List.setIfInBounds_toArray, List.set_cons_succ, List.set_cons_zero]
       refine QuietCalls.call1 rfl rfl Tryz.call48 (fun w _ => HT.out w) rfl ?_; simp only [Act.put, List.setIfInBounds_toArray, List.set_cons_succ, List.set_cons_zero]
       first | go_big_quiet_step (fail) | quiet_step (fail)
       first | go_big_quiet_step (fail) | quiet_step (fail)
       first | go_big_quiet_step (fail) | quiet_step (fail)
       refine wpQuiet_nil ?_
       intro w2 k2
       go_wp2_with fail
       go_ret
       exact ⟨rfl, HW.out.2.trans (k2.mono HW.out.2.size)⟩
     rw [if_neg k1] at hG
     replace k1 : (kd == 1) = false := beq_eq_false_iff_ne.2 k1
     by_cases k2 : kd = 2
     ·rw [if_pos k2] at hG
      subst k2
      subst hG
      cases m <;> cases E <;> cases H <;> cases d
      all_goals (
       go_wp2_with fail
       go_ret
       exact ⟨rfl, HW.out.2⟩)
     rw [if_neg k2] at hG
     replace k2 : (kd == 2) = false := beq_eq_false_iff_ne.2 k2
     by_cases k3 : kd = 3
     ·rw [if_pos k3] at hG
      subst k3
      subst hG
      cases m <;> cases E <;> cases N
      all_goals (
       go_wp2_with fail
       go_ret
       exact ⟨rfl, HW.out.2⟩)
     rw [if_neg k3] at hG
     replace k3 : (kd == 3) = false := beq_eq_false_iff_ne.2 k3
     by_cases k4 : kd = 4
     ·rw [if_pos k4] at hG
      subst k4
      obtain ⟨F, hF⟩ : ∃ F, (g.size == 32 && decide (0 ≤ z) && decide (z ≤ 8192)) = F := ⟨_, rfl⟩
      replace hG : G = (m && N && F) := by rw [← hF]; exact hG
      subst hG
      rcases fill_cases g z F hF with ⟨h1, rfl⟩ | ⟨h1, ⟨h2, rfl⟩ | ⟨h2, h3⟩⟩
      ·clear hF
       cases m <;> cases N
       all_goals (
        go_wp2_with fail
        go_ret
        exact ⟨rfl, HW.out.2⟩)
      ·clear hF
       cases m <;> cases N
       all_goals (
        go_wp2_with fail
        go_ret
        exact ⟨rfl, HW.out.2⟩)
      ·clear hF
       cases F <;> cases m <;> cases N
       all_goals (
        go_wp2_with fail
        go_ret
        exact ⟨rfl, HW.out.2⟩)
     rw [if_neg k4] at hG
     replace k4 : (kd == 4) = false := beq_eq_false_iff_ne.2 k4
     subst hG
     go_wp2_with fail
     go_ret
     exact ⟨rfl, HW.out.2⟩
 ·rw [Tm.chk_no hok] at HC
  rw [Ob.chk_no hok]
  clear hok
  obtain ⟨kd, ⟨c, k⟩, th, p, n, d, g, z⟩ := o
  dsimp only at HC HT ⊢
  go_enter Tryz.func20, Tryz.ntmps20
  go_wp2_with (go_at_call 46; refine (HC.out _).mono ?_; rintro e w1 ⟨rfl, k1⟩)
  go_ret
  exact ⟨rfl, below_alloc_call k1⟩
end Go.Proofs.YtnbhchdaobimmaaGreatDoor
