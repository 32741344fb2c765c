/- Several texts in one: MoveTurnsMath, MoveTwins, MoveTwo, AppendSz. -/
import Derived.Test.YtknnamanbeckeaaMoveEntry
import Derived.Test.YtknnamanbeckeaaMoveFew
import Derived.Deep.MidRow
import Derived.Test.YtknnamanbeckeaaSortThree
import Derived.Test.YtknnamanbeckeaaMoveBackWalk
import Derived.WalkKit
import Derived.OwnWalk
import Derived.OwnWalkIn
import Derived.Laws.OwnMore
import Derived.RangeFuncBox
/- Operations come in whatever order: what is kept of them hangs on which they are alone; of no program. -/
namespace Go.Mov
open Go.RowKit
/-- Unlike ones of one time have unlike digests. -/
def Uniq (es : List En) : Prop := ∀ x ∈ es, ∀ y ∈ es, x.op.tm = y.op.tm → x.h = y.h → x = y
theorem known_mem {l : List En} {e : En} (h : known l e = true) : ∃ y ∈ l, y.op.tm = e.op.tm ∧ y.h = e.h := by
  unfold known at h
  split at h
  · rename_i x hx
    exact ⟨x, List.mem_of_getElem? hx, cmpE_eq.1 (by simpa using h)⟩
  · cases h
theorem addsU_mem {es : List En} (hu : Uniq es) : ∀ n, ∀ x, x ∈ (addsU (es.take n)).1 ↔ x ∈ es.take n := by
  intro n
  induction n with
  | zero => intro x; simp [addsU]
  | succ n ih =>
    intro x
    by_cases hn : n < es.length
    · have e1 : es.take (n + 1) = es.take n ++ [es[n]] := List.take_succ_eq_append_getElem hn
      rw [e1, addsU_snoc]
      show x ∈ addE (addsU (es.take n)).1 es[n] ↔ _
      rw [List.mem_append, List.mem_singleton]
      unfold addE
      split
      · rename_i hk
        rw [ih x]
        constructor
        · exact .inl
        · rintro (h | rfl)
          · exact h
          · obtain ⟨y, hy, h1, h2⟩ := known_mem hk
            have hy' := (ih y).1 hy
            have := hu y (List.mem_of_mem_take hy') es[n] (List.getElem_mem hn) h1 h2
            rw [← this]; exact hy'
      · rw [mem_ins, ih x]
        exact Or.comm
    · have e1 : es.take (n + 1) = es.take n := by rw [List.take_of_length_le (by omega), List.take_of_length_le (by omega)]
      rw [e1]
      exact ih x
theorem addsU_ord (es : List En) : Ord (addsU es).1 := by
  suffices h : ∀ n, Ord (addsU (es.take n)).1 by
    have := h es.length
    rwa [List.take_length] at this
  intro n
  induction n with
  | zero => exact List.Pairwise.nil
  | succ n ih =>
    by_cases hn : n < es.length
    · have e1 : es.take (n + 1) = es.take n ++ [es[n]] := List.take_succ_eq_append_getElem hn
      rw [e1, addsU_snoc]
      exact addE_ord ih
    · have e1 : es.take (n + 1) = es.take n := by rw [List.take_of_length_le (by omega), List.take_of_length_le (by omega)]
      rw [e1]
      exact ih
theorem ord_ext {l r : List En} (hl : Ord l) (hr : Ord r) (h : ∀ x, x ∈ l ↔ x ∈ r) : l = r := by
  have n1 : l.Nodup := hl.imp fun {a b} hab (e : a = b) => Bf.irrefl a (by rw [← e] at hab; exact hab)
  have n2 : r.Nodup := hr.imp fun {a b} hab (e : a = b) => Bf.irrefl a (by rw [← e] at hab; exact hab)
  exact List.Perm.eq_of_pairwise (le := Bf) (fun a b _ _ h1 h2 => absurd h2 h1.asymm) hl hr ((List.perm_ext_iff_of_nodup n1 n2).2 h)
/-- The same operations, in whatever order, however often. -/
theorem addsU_same {A B : List En} (hu : Uniq A) (h : ∀ x, x ∈ A ↔ x ∈ B) : (addsU A).1 = (addsU B).1 := by
  have hB : Uniq B := fun x hx y hy => hu x ((h x).2 hx) y ((h y).2 hy)
  refine ord_ext (addsU_ord A) (addsU_ord B) fun x => ?_
  have h1 := addsU_mem hu A.length x
  have h2 := addsU_mem hB B.length x
  rw [List.take_length] at h1 h2
  rw [h1, h2]
  exact h x
/-- No two unlike operations of the law's have one time and one letter. -/
def NoTw (ks : List Le) : Prop := ∀ (i k : Nat) (x y : Le), k < i → ks[i]? = some x → ks[k]? = some y → x.h = y.h → x.op.tm = y.op.tm → x.op = y.op
theorem NoTw.uniq {ks : List Le} (h : NoTw ks) : Uniq (ks.map Le.en) := by
  intro a ha b hb ht hh
  obtain ⟨x, hx, rfl⟩ := List.mem_map.1 ha
  obtain ⟨y, hy, rfl⟩ := List.mem_map.1 hb
  obtain ⟨i, hi, rfl⟩ := List.getElem_of_mem hx
  obtain ⟨k, hk, rfl⟩ := List.getElem_of_mem hy
  have hq : ks[i].h = ks[k].h := by
    have : (⟨#[ks[i].h]⟩ : ByteArray) = ⟨#[ks[k].h]⟩ := hh
    injection this with this
    injection this with this
    injection this
  rcases Nat.lt_trichotomy k i with hlt | rfl | hlt
  · have := h i k _ _ hlt (List.getElem?_eq_getElem hi) (List.getElem?_eq_getElem hk) hq ht
    unfold Le.en; rw [this, hq]
  · rfl
  · have := h k i _ _ hlt (List.getElem?_eq_getElem hk) (List.getElem?_eq_getElem hi) hq.symm ht.symm
    unfold Le.en; rw [this, hq]
end Go.Mov
/- Contract: whether two unlike operations have one time and one letter. -/
namespace Go.Proofs.Ytknnamanbeckeaa
open Go.RowKit Go.Opn Go.Stamp Go.MapInt Go.Mov Go.Shelf Go.Rws
attribute [local go_sem] Oper.semAt_some
theorem infoLe1 : (Try.prog.info? 38).map (·.size) = some 2 := by kernel_rfl
theorem infoOp9 : (Try.prog.info? 40).map (·.size) = some 9 := by kernel_rfl
theorem guardSt : Try.prog.eqGuardType Try.prog.depth 38 = false := by kernel_rfl
theorem eq_stamp0 (a b : Tm) (w : World) : (Op.equalIn 10000 38 (.agg #[.int .u64 a.c, .int .i64 a.k]) (.agg #[.int .u64 b.c, .int .i64 b.k])).run Try.prog w = .ok (a.c == b.c && (a.k == b.k && true)) w := by
  rw [run_equalIn_agg w 9999 38 _ _ (by unfold Program.fieldsOf; rw [Try.underlying38]) (by kernel_rfl)]
  unfold Program.fieldsOf
  rw [Try.underlying38]
  refine eq_step (x := .int .u64 a.c) (y := .int .u64 b.c) (by decide) (by go_simp) (by go_simp) (run_equalIn_int w _ _ _ _ _ _ Try.underlying30) ?_
  refine eq_step (x := .int .i64 a.k) (y := .int .i64 b.k) (by decide) (by go_simp) (by go_simp) (run_equalIn_int w _ _ _ _ _ _ Try.underlying3) ?_
  rfl
theorem eql_st {o : Oper} {a : Act} {x y : Operand} {t : TypeId} (ho : o.op = .binOp .eql 38 x y t) (p q : Tm) (hx : a.eval x = .agg #[.int .u64 p.c, .int .i64 p.k]) (hy : a.eval y = .agg #[.int .u64 q.c, .int .i64 q.k]) (b : Bool) (hb : (p.c == q.c && (p.k == q.k && true)) = b) (w : World) :
    (execOp a.eval o).run Try.prog w = .ok (.value (.bool b)) w := by
  subst hb
  unfold execOp
  rw [ho]
  simp only [hx, hy, Sem.run_bind, run_eqGuard_agg w .eql 38 x y _ _ guardSt, Result.andThen_ok, run_eql_struct, eq_stamp0]
  rfl
theorem range_tm {w : World} {g o : Nat} {e : Le} (h : w.rangeAt g o e.cs) : w.rangeAt g (o + 1) [.int .u64 e.op.tm.c, .int .i64 e.op.tm.k] := fun j u hu => by
  have hj : j < 2 := (List.getElem?_eq_some_iff.1 hu).1
  have := h (j + 1) u (by
    match j, hj, hu with
    | 0, _, hu => exact hu
    | 1, _, hu => exact hu)
  rw [show o + 1 + j = o + (j + 1) by omega]
  exact this
def ocs (o : Ob) : List Value := [.int .i64 o.kind, .int .u64 o.tm.c, .int .i64 o.tm.k, .int .u64 o.thing, .int .u64 o.par, .string o.name, .bool o.dir, .string o.dg, .int .i64 o.size]
theorem range_op {w : World} {g o : Nat} {e : Le} (h : w.rangeAt g o e.cs) : w.rangeAt g o (ocs e.op) := fun j u hu => by
  have hj : j < 9 := (List.getElem?_eq_some_iff.1 hu).1
  refine h j u ?_
  have e1 : (e.cs)[j]? = (ocs e.op ++ [.int .u8 (e.h.toNat : Nat)])[j]? := rfl
  rw [e1, List.getElem?_append_left (by exact hj)]
  exact hu
set_option maxHeartbeats 4000000 in
set_option maxRecDepth 100000 in
theorem twins_any (ks : List Le) (v : Value) (w : World) (hR : RowsAt Le.cs 10 w v ks) (hn : ks.length ≤ 60) :
    Calls Try.prog 17 #[v] w fun r w' => (∃ tw, r = .returned (.bool tw) ∧ (tw = false → NoTw ks)) ∧ Below w.heap.size w w' := by
  obtain ⟨va, vc, rfl⟩ := hR.form
  have HR := hide hR
  clear hR
  go_enter Try.func17, Try.ntmps17
  go_wp2_with fail
  go_loopw [3] (fun v3 wr => ∃ i : Nat, v3 = .int .i64 i ∧ i ≤ ks.length ∧ Hid (Below w.heap.size w wr ∧ ∀ (i' k' : Nat) (x y : Le), i' < i → k' < i' → ks[i']? = some x → ks[k']? = some y → x.h = y.h → x.op.tm = y.op.tm → x.op = y.op)) (fun v3 _ => ks.length + 1 - (intOf v3).toNat)
  case atStart => exact ⟨0, rfl, Nat.zero_le _, Below.refl _ _, fun i' k' x y h => absurd h (by omega)⟩
  case round =>
    obtain ⟨i, rfl, hi, HI⟩ := hrel
    by_cases hil : i < ks.length
    · have hiI : (i : Int) < ks.length := by omega
      have hi0 : (0 : Int) ≤ i := by omega
      go_wp2_with fail
      go_loopw [4] (fun v4 wr => ∃ k : Nat, v4 = .int .i64 k ∧ k ≤ i ∧ Hid (Below w.heap.size w wr ∧ ∀ (k' : Nat) (x y : Le), k' < k → ks[i]? = some x → ks[k']? = some y → x.h = y.h → x.op.tm = y.op.tm → x.op = y.op)) (fun v4 _ => i + 1 - (intOf v4).toNat)
      case atStart => exact ⟨0, rfl, Nat.zero_le _, HI.out.1, fun k' x y h => absurd h (by omega)⟩
      case round =>
        obtain ⟨k, rfl, hk, HK⟩ := hrel
        by_cases hki : k < i
        · have hkI : (k : Int) < i := by omega
          have hkI2 : (k : Int) < ks.length := by omega
          have hk0 : (0 : Int) ≤ k := by omega
          obtain ⟨x, hx⟩ : ∃ x, ks[i]? = some x := ⟨_, List.getElem?_eq_getElem hil⟩
          obtain ⟨y, hy⟩ : ∃ y, ks[k]? = some y := ⟨_, List.getElem?_eq_getElem (by omega)⟩
          obtain ⟨g, off, hva, _, hvc, hgl, hrg⟩ := (HR.out.below HK.out.1).at (fun e => by rw [e] at hx; cases hx)
          subst hva
          have hvI : (ks.length : Int) ≤ vc := by omega
          have HG := hide (And.intro hgl (And.intro (hrg i x hx) (hrg k y hy)))
          have c9 := hrg i x hx 9 _ rfl
          have d9 := hrg k y hy 9 _ rfl
          have HXY := hide (And.intro hx hy)
          clear hx hy hgl hrg
          obtain ⟨xh, hxh⟩ : ∃ xh : Nat, xh = x.h.toNat := ⟨_, rfl⟩
          obtain ⟨yh, hyh⟩ : ∃ yh : Nat, yh = y.h.toNat := ⟨_, rfl⟩
          rw [← hxh] at c9
          rw [← hyh] at d9
          have HH := hide (And.intro hxh hyh)
          clear hxh hyh
          have r1 := cell_regrown c9
          have r2 := cell_regrown d9
          by_cases hh : (xh : Int) = yh
          · have hhB : ((xh : Int) == (yh : Int)) = true := by simpa using hh
            have hhq : x.h = y.h := by have := HH.out.1; have := HH.out.2; exact UInt8.toNat_inj.1 (by omega)
            have HHQ := hide hhq
            clear hhq hh
            obtain ⟨et, het⟩ : ∃ et, et = (x.op.tm.c == y.op.tm.c && (x.op.tm.k == y.op.tm.k && true)) := ⟨_, rfl⟩
            have HET := hide het.symm
            clear het
            go_upto_region 7 with fail
            refine QuietCalls.region (by kernel_rfl) (by kernel_rfl) ?_
            iterate 17 (first | go_big_quiet_step (fail) | quiet_step (fail))
            refine QuietCalls.loadMid rfl 38 _ rfl g (off + i * 10 + 1) rfl [.int .u64 x.op.tm.c, .int .i64 x.op.tm.k] _ (fun v k => range_tm (rangeAt_below HG.out.2.1 HG.out.1 k)) Try.underlying38 rfl infoLe1 ?_; simp only [Act.put, List.setIfInBounds_toArray, List.set_cons_succ, List.set_cons_zero]
            iterate 5 (first | go_big_quiet_step (fail) | quiet_step (fail))
            refine QuietCalls.loadMid rfl 38 _ rfl g (off + k * 10 + 1) rfl [.int .u64 y.op.tm.c, .int .i64 y.op.tm.k] _ (fun v k => range_tm (rangeAt_below HG.out.2.2 HG.out.1 k)) Try.underlying38 rfl infoLe1 ?_; simp only [Act.put, List.setIfInBounds_toArray, List.set_cons_succ, List.set_cons_zero]
            refine QuietCalls.hand rfl (.bool et) (fun w => eql_st rfl x.op.tm y.op.tm rfl rfl et HET.out w) ?_; simp only [Act.put, List.setIfInBounds_toArray, List.set_cons_succ, List.set_cons_zero]
            cases et with
            | false =>
              iterate 14 (first | go_big_quiet_step (fail) | quiet_step (fail))
              refine wpQuiet_nil ?_
              intro w2 k2
              have HB2 := hide (HK.out.1.trans (k2.mono HK.out.1.size))
              clear k2 c9 d9 r1 r2
              go_wp2_with fail
              go_roundw
              case rel =>
                refine ⟨k + 1, by simp, by omega, HB2.out, fun k' x' y' hk' hx' hy' h1 h2 => ?_⟩
                by_cases e : k' = k
                · subst e
                  rw [HXY.out.1] at hx'
                  rw [HXY.out.2] at hy'
                  cases hx'
                  cases hy'
                  have := HET.out
                  rw [h2] at this
                  simp at this
                · exact HK.out.2 k' x' y' (by omega) hx' hy' h1 h2
              case measure => simp [intOf]; omega
            | true =>
              obtain ⟨eo, heo⟩ : ∃ eo, eo = x.op.eqb y.op := ⟨_, rfl⟩
              have HEO := hide heo.symm
              clear heo
              iterate 6 (first | go_big_quiet_step (fail) | quiet_step (fail))
              refine QuietCalls.loadMid rfl 40 _ rfl g (off + i * 10) rfl (ocs x.op) _ (fun v k => range_op (rangeAt_below HG.out.2.1 HG.out.1 k)) Try.underlying40 rfl infoOp9 ?_; simp only [Act.put, List.setIfInBounds_toArray, List.set_cons_succ, List.set_cons_zero]
              iterate 4 (first | go_big_quiet_step (fail) | quiet_step (fail))
              refine QuietCalls.loadMid rfl 40 _ rfl g (off + k * 10) rfl (ocs y.op) _ (fun v k => range_op (rangeAt_below HG.out.2.2 HG.out.1 k)) Try.underlying40 rfl infoOp9 ?_; simp only [Act.put, List.setIfInBounds_toArray, List.set_cons_succ, List.set_cons_zero]
              refine QuietCalls.hand rfl (.bool (!eo)) (fun w => (neq_op rfl x.op y.op rfl rfl w).trans (by rw [HEO.out])) ?_; simp only [Act.put, List.setIfInBounds_toArray, List.set_cons_succ, List.set_cons_zero]
              iterate 1 (first | go_big_quiet_step (fail) | quiet_step (fail))
              refine wpQuiet_nil ?_
              intro w2 k2
              have HB2 := hide (HK.out.1.trans (k2.mono HK.out.1.size))
              clear k2 c9 d9 r1 r2
              cases eo with
              | true =>
                go_wp2_with fail
                go_roundw
                case rel =>
                  refine ⟨k + 1, by simp, by omega, HB2.out, fun k' x' y' hk' hx' hy' h1 h2 => ?_⟩
                  by_cases e : k' = k
                  · subst e
                    rw [HXY.out.1] at hx'
                    rw [HXY.out.2] at hy'
                    cases hx'
                    cases hy'
                    exact (Ob.eqb_iff _ _).1 HEO.out
                  · exact HK.out.2 k' x' y' (by omega) hx' hy' h1 h2
                case measure => simp [intOf]; omega
              | false =>
                go_wp2_with fail
                go_ret
                exact ⟨.inr rfl, HB2.out⟩
          · have hhB : ((xh : Int) == (yh : Int)) = false := by simpa using hh
            have hhq : x.h ≠ y.h := fun e => hh (by rw [HH.out.1, HH.out.2, e])
            have HHQ := hide hhq
            clear hhq
            go_upto_region 7 with fail
            refine QuietCalls.region (by kernel_rfl) (by kernel_rfl) ?_
            iterate 39 (first | go_big_quiet_step (fail) | quiet_step (fail))
            refine wpQuiet_nil ?_
            intro w2 k2
            have HB2 := hide (HK.out.1.trans (k2.mono HK.out.1.size))
            clear k2 c9 d9 r1 r2
            go_wp2_with fail
            go_roundw
            case rel =>
              refine ⟨k + 1, by simp, by omega, HB2.out, fun k' x' y' hk' hx' hy' h1 h2 => ?_⟩
              by_cases e : k' = k
              · subst e
                rw [HXY.out.1] at hx'
                rw [HXY.out.2] at hy'
                cases hx'
                cases hy'
                exact absurd h1 HHQ.out
              · exact HK.out.2 k' x' y' (by omega) hx' hy' h1 h2
            case measure => simp [intOf]; omega
        · obtain rfl : k = i := by omega
          have hkI : ¬ (k : Int) < k := by omega
          go_wp2_with fail
          go_roundw
          case rel =>
            refine ⟨k + 1, by simp, by omega, HK.out.1, fun i' k' x y h1 h2 h3 h4 h5 h6 => ?_⟩
            by_cases e : i' = k
            · subst e
              exact HK.out.2 k' x y h2 h3 h4 h5 h6
            · exact HI.out.2 i' k' x y (by omega) h2 h3 h4 h5 h6
          case measure => simp [intOf]; omega
    · obtain rfl : i = ks.length := by omega
      have hiI : ¬ (ks.length : Int) < ks.length := by omega
      go_wp2_with fail
      go_ret
      exact ⟨.inl ⟨rfl, fun i k x y hk hx hy h1 h2 => HI.out.2 i k x y (List.getElem?_eq_some_iff.1 hx).1 hk hx hy h1 h2⟩, HI.out.1⟩
end Go.Proofs.Ytknnamanbeckeaa
/- Two trees beside the law's operations: one is added to, the other stands. -/
namespace Go.Proofs.Ytknnamanbeckeaa
open Go.RowKit Go.Opn Go.Stamp Go.MapInt Go.Mov Go.Shelf Go.Rws
attribute [local go_sem] Oper.semAt_some
abbrev TrAt (base : Nat) (F : Ft) (l : List En) (u : Int) (w : World) : Prop := TreeAt Try.prog 30 66 75 base F l u w
theorem TrAt.lower {base base' : Nat} {F : Ft} {l : List En} {u : Int} {w : World} (h : TrAt base F l u w) (hb : base' ≤ base) : TrAt base' F l u w :=
  ⟨h.blk, h.map, own_low h.row hb, fun x hx => Nat.le_trans hb (h.low x hx), h.fits, h.ord⟩
theorem TrAt.kept {base : Nat} {F : Ft} {l : List En} {u : Int} {w w' : World} (h : TrAt base F l u w) (hb : ∀ x, F.has x → w'.heap[x]? = w.heap[x]?) : TrAt base F l u w' := TreeG.at (h.g.kept hb) h.fits h.ord
/-- A tree that is added to, another one, the law's operations. -/
structure Mt (W : World) (b : Nat) (kv : Value) (ks : List Le) (Fx : Ft) (lx : List En) (ux : Int) (l : List En) (u : Int) (v : World) : Prop where
  ks : RowsAt Le.cs 10 v kv ks
  t : Tw W b (fun x => kv.ownBlock = some x ∨ Fx.has x) l u v
  x : TrAt W.heap.size Fx lx ux v
variable {W v v' : World} {b : Nat} {kv : Value} {ks : List Le} {Fx : Ft} {lx l : List En} {ux u : Int}
theorem Mt.step (h : Mt W b kv ks Fx lx ux l u v) (k : Below v.heap.size v v') : Mt W b kv ks Fx lx ux l u v' := ⟨h.ks.below k, h.t.below k, h.x.below k⟩
theorem Mt.add {e : En} (h : Mt W b kv ks Fx lx ux l u v) (he : e.Fits) (hl : l.length ≤ 90000) (hu : 0 ≤ u ∧ u ≤ 1000000000000) :
    Calls Try.prog 10 #[.pointer (some ⟨b, 0, none⟩), e.v] v fun r w' => r = .returned (.bool (!known l e)) ∧ Mt W b kv ks Fx lx ux (addE l e) (u + backs l e) w' := by
  refine (addTw_any e h.t he hl hu).mono ?_
  rintro r w' ⟨rfl, h1, h2, hsz⟩
  exact ⟨rfl, h.ks.kept hsz fun g hg => h2 g (.inl hg), h1, h.x.kept fun x hx => h2 x (.inr hx)⟩
/-- The other one is added to now. -/
theorem Mt.swap (h : Mt W b kv ks Fx lx ux l u v) (hk : ∀ g, kv.ownBlock = some g → ¬ Fx.has g) : ∃ Fa : Ft, Fa.b = b ∧ Mt W Fx.b kv ks Fa l u lx ux v := by
  obtain ⟨Fa, e1, hta, dj⟩ := h.t.t
  refine ⟨Fa, e1, h.ks, ⟨⟨Fx, rfl, h.x, fun x hx hf => ?_⟩, fun x hx => ?_, h.t.k⟩, hta⟩
  · rcases hx with hx | hx
    · exact hk x hx hf
    · exact dj x (.inr hf) hx
  · rcases hx with hx | hx
    · exact h.t.lt x (.inl hx)
    · exact hta.lt x hx
/-- At the start: two new trees, the operations behind them. -/
theorem Mt.start {w0 w1 w2 w3 w4 w5 : World} {ba bb : Nat} (ha : Tw w0 ba (fun _ => False) [] 0 w1) (hb : Tw w1 bb (fun _ => False) [] 0 w2) (h3 : Below w2.heap.size w2 w3) (h4 : Lr w3 kv ks w4) (h5 : Below w4.heap.size w4 w5) :
    ∃ Fb : Ft, Fb.b = bb ∧ (∀ g, kv.ownBlock = some g → ¬ Fb.has g) ∧ Mt w0 ba kv ks Fb [] 0 [] 0 w5 := by
  obtain ⟨Fa, e1, hta, _⟩ := ha.t
  obtain ⟨Fb, e2, htb, _⟩ := hb.t
  have z12 := hb.k.size
  have z23 := h3.size
  have z34 := h4.below.size
  have z45 := h5.size
  have k25 : Below w2.heap.size w2 w5 := (h3.trans (h4.below.mono z23)).trans (h5.mono (by omega))
  have k15 : Below w1.heap.size w1 w5 := hb.k.trans (k25.mono z12)
  have k05 : Below w0.heap.size w0 w5 := ha.k.trans (k15.mono ha.k.size)
  have hkl : ∀ g, kv.ownBlock = some g → w3.heap.size ≤ g ∧ g < w4.heap.size := fun g hg => h4.own.lt g hg
  refine ⟨Fb, e2, fun g hg hf => ?_, (h4.rows Le.cs_length).below h5, ⟨⟨Fa, e1, hta.below k15, fun x hx hf => ?_⟩, fun x hx => ?_, k05⟩, (TrAt.lower htb ha.k.size).below k25⟩
  · have := hkl g hg; have := htb.lt g hf; omega
  · rcases hx with hx | hx
    · have := hkl x hx; have := hta.lt x hf; omega
    · have := htb.low x hx; have := hta.lt x hf; omega
  · rcases hx with hx | hx
    · have := hkl x hx; omega
    · have := htb.lt x hx; omega
end Go.Proofs.Ytknnamanbeckeaa
/- append to a row of one's own, elements of any size: where the row lies behind it; of no program. -/
namespace Go.AppendSz
open Go.RowKit
variable {P : Program} {w : World}
theorem where_append {base e : Nat} {t ty : TypeId} {i : TypeInfo} {z v : Value} {size bytes n : Nat} {xs : List Value} (ht : P.underlying t = some (.slice e)) (hi : P.info? e = some i) (hz : i.zero = some z)
    (hsize : i.size = size) (hby : i.bytes = bytes) (hown : w.ownsRow base e size v n xs)
    (ad : Addr) (m c : Nat) (news : List Value) (hl : news.length = m * size) (hu : ∀ j y, news[j]? = some y → w.cell? (ad.add j) = some y) (h1 : ∀ u ∈ news, u.oneCell' = true) (hlen : (n + m) * bytes ≤ 140737488355328) (h63 : n + m ≤ maxLen)
    (v' : Value) (w' : World) (hr : (Builtin.append_ #[t, t] ty #[v, .slice (some ad) m c]).run P w = .ok v' w') : v'.ownBlock = v.ownBlock ∨ v'.ownBlock = some w.heap.size := by
  subst hby
  subst hsize
  have hsmall : n + m ≤ 9223372036854775807 := by simp only [maxLen] at h63; omega
  rcases hown.2 with ⟨rfl, rfl⟩ | ⟨g, cap, cur, rfl, hbg, hg, hnc, hcm, hcs, htake⟩
  · by_cases hm : m = 0
    · subst hm
      have hn : news = [] := List.eq_nil_of_length_eq_zero (by simpa using hl)
      have e1 : (Builtin.append_ #[t, t] ty #[.slice none 0 0, .slice (some ad) 0 c]).run P w = .ok (.slice none 0 0) w := by
        simp [Builtin.append_, run_underlying ht, sizeOf, typeInfo, hi, Builtin.lenOf, Builtin.firstCells, loadCells, loadCellsFrom]
      rw [e1] at hr
      cases hr
      exact .inl rfl
    · have h2 := run_append_nil (P := P) w t ty e i z ht hi hz ad m c news hl hu (by omega) (by omega) (by rw [Nat.zero_add] at hlen; omega)
      rw [h2] at hr
      cases hr
      exact .inr rfl
  · by_cases hroom : n + m ≤ cap
    · have hfit : n * i.size + news.length ≤ cur.size := by rw [hl, hcs, ← Nat.add_mul]; exact Nat.mul_le_mul_right _ hroom
      have h2 := run_append_room (P := P) w t ty e i ht hi g n cap cur hg ad m c news hl hu h1 hroom hfit
      rw [h2] at hr
      cases hr
      exact .inl rfl
    · have h2 := run_append_grow (P := P) w t ty e i z ht hi hz ⟨g, 0, none⟩ n cap xs hown.1 (hown.cells (g := g) rfl) ad m c news hl hu (by omega) (by omega) (growslice_fits (by omega) hlen)
      rw [h2] at hr
      cases hr
      exact .inr rfl
theorem wpListIn_append_sz {F : Fence} {n : Nat} {ops : Array Oper} {rest : List Oper} {o : Oper} {a : Act} {Q : Exit → Act → World → Prop}
    (hg : o.guard = none) (s x : Operand) (t : TypeId) (hop : o.op = Op.call { callee := Callee.builtin Builtin.append, args := #[s, x], argTypes := #[t, t] })
    (base : Nat) (e : TypeId) (i : TypeInfo) (z : Value) (size bytes : Nat) (h1 : P.underlying t = some (.slice e)) (h2 : P.info? e = some i) (h3 : i.zero = some z) (h4 : i.size = size) (h5 : i.bytes = bytes) (h6 : z.cells.size = size) (h7 : 0 < size)
    (v : Value) (k : Nat) (xs : List Value) (hs : a.eval s = v) (hown : w.ownsRow base e size v k xs) (ad : Addr) (m c : Nat) (news : List Value) (hx : a.eval x = .slice (some ad) m c) (hn : news.length = m * size)
    (hc : ∀ j u, news[j]? = some u → w.cell? (ad.add j) = some u) (h1c : ∀ u ∈ news, u.oneCell' = true) (b1 : k + m ≤ maxLen) (b2 : (k + m) * bytes ≤ 140737488355328) (b3 : base ≤ w.heap.size)
    (hK : ∀ v' w', w'.ownsRow base e size v' (k + m) (xs ++ news) → w.grownBy w' v.ownBlock → (v'.ownBlock = v.ownBlock ∨ v'.ownBlock = some w.heap.size) → wpListIn F n P ops Q rest (a.put o.dst v') w') :
    wpListIn F n P ops Q (o :: rest) a w := by
  refine wpListIn_plain hg fun K hK' => ?_
  obtain ⟨v', w', hrun, r1, r2, _⟩ := run_append_own (P := P) w base t o.type e i z size bytes h1 h2 h3 h4 h5 h6 h7 v k xs hown ad m c news hn hc h1c b1 b2 b3
  have r3 := where_append (ty := o.type) h1 h2 h3 h4 h5 hown ad m c news hn hc h1c b2 b1 v' w' hrun
  unfold Oper.wpIn
  refine ⟨?_, ?_⟩
  · simp [Oper.about, hop, resolve, Target.leads, Sem.run_pure]
  · rw [Oper.semAt_plain F _ _ (by rw [hop]; intro c hc'; cases hc')]
    simp [execOp, hop, resolve, invoke, builtin, hs, hx, hrun, Result.andThen]
    exact hK' _ _ (hK v' w' r1 r2 r3)
end Go.AppendSz
