/- Several texts in one: MoveTurnsMath, MoveTwins, AppendSz. -/
import Derived.Test.YtngikahadkoliaaGreatDoorEntryAll
import Derived.Test.YtngikahadkoliaaGreatDoorRunAI
import Derived.Deep.MidRow
import Derived.WalkKit
import Derived.OwnWalk
import Derived.OwnWalkIn
import Derived.Laws.OwnMore
import Derived.RangeFuncBox
/- Operations come in whatever order: what is kept of them hangs on which they are alone; of no program. -/
namespace Go.Mov
open Go.RowKit
/-- Unlike ones of one time have unlike digests. -/
def Uniq (es : List En) : Prop := ∀ x ∈ es, ∀ y ∈ es, x.op.tm = y.op.tm → x.h = y.h → x = y
theorem known_mem {l : List En} {e : En} (h : known l e = true) : ∃ y ∈ l, y.op.tm = e.op.tm ∧ y.h = e.h := by
  unfold known at h
  split at h
  · rename_i x hx
    exact ⟨x, List.mem_of_getElem? hx, cmpE_eq.1 (by simpa using h)⟩
  · cases h
theorem addsU_mem {es : List En} (hu : Uniq es) : ∀ n, ∀ x, x ∈ (addsU (es.take n)).1 ↔ x ∈ es.take n := by
  intro n
  induction n with
  | zero => intro x; simp [addsU]
  | succ n ih =>
    intro x
    by_cases hn : n < es.length
    · have e1 : es.take (n + 1) = es.take n ++ [es[n]] := List.take_succ_eq_append_getElem hn
      rw [e1, addsU_snoc]
      show x ∈ addE (addsU (es.take n)).1 es[n] ↔ _
      rw [List.mem_append, List.mem_singleton]
      unfold addE
      split
      · rename_i hk
        rw [ih x]
        constructor
        · exact .inl
        · rintro (h | rfl)
          · exact h
          · obtain ⟨y, hy, h1, h2⟩ := known_mem hk
            have hy' := (ih y).1 hy
            have := hu y (List.mem_of_mem_take hy') es[n] (List.getElem_mem hn) h1 h2
            rw [← this]; exact hy'
      · rw [mem_ins, ih x]
        exact Or.comm
    · have e1 : es.take (n + 1) = es.take n := by rw [List.take_of_length_le (by omega), List.take_of_length_le (by omega)]
      rw [e1]
      exact ih x
theorem addsU_ord (es : List En) : Ord (addsU es).1 := by
  suffices h : ∀ n, Ord (addsU (es.take n)).1 by
    have := h es.length
    rwa [List.take_length] at this
  intro n
  induction n with
  | zero => exact List.Pairwise.nil
  | succ n ih =>
    by_cases hn : n < es.length
    · have e1 : es.take (n + 1) = es.take n ++ [es[n]] := List.take_succ_eq_append_getElem hn
      rw [e1, addsU_snoc]
      exact addE_ord ih
    · have e1 : es.take (n + 1) = es.take n := by rw [List.take_of_length_le (by omega), List.take_of_length_le (by omega)]
      rw [e1]
      exact ih
theorem ord_ext {l r : List En} (hl : Ord l) (hr : Ord r) (h : ∀ x, x ∈ l ↔ x ∈ r) : l = r := by
  have n1 : l.Nodup := hl.imp fun {a b} hab (e : a = b) => Bf.irrefl a (by rw [← e] at hab; exact hab)
  have n2 : r.Nodup := hr.imp fun {a b} hab (e : a = b) => Bf.irrefl a (by rw [← e] at hab; exact hab)
  exact List.Perm.eq_of_pairwise (le := Bf) (fun a b _ _ h1 h2 => absurd h2 h1.asymm) hl hr ((List.perm_ext_iff_of_nodup n1 n2).2 h)
/-- The same operations, in whatever order, however often. -/
theorem addsU_same {A B : List En} (hu : Uniq A) (h : ∀ x, x ∈ A ↔ x ∈ B) : (addsU A).1 = (addsU B).1 := by
  have hB : Uniq B := fun x hx y hy => hu x ((h x).2 hx) y ((h y).2 hy)
  refine ord_ext (addsU_ord A) (addsU_ord B) fun x => ?_
  have h1 := addsU_mem hu A.length x
  have h2 := addsU_mem hB B.length x
  rw [List.take_length] at h1 h2
  rw [h1, h2]
  exact h x
/-- No two unlike operations of the law's have one time and one letter. -/
def NoTw (ks : List Le) : Prop := ∀ (i k : Nat) (x y : Le), k < i → ks[i]? = some x → ks[k]? = some y → x.h = y.h → x.op.tm = y.op.tm → x.op = y.op
theorem NoTw.uniq {ks : List Le} (h : NoTw ks) : Uniq (ks.map Le.en) := by
  intro a ha b hb ht hh
  obtain ⟨x, hx, rfl⟩ := List.mem_map.1 ha
  obtain ⟨y, hy, rfl⟩ := List.mem_map.1 hb
  obtain ⟨i, hi, rfl⟩ := List.getElem_of_mem hx
  obtain ⟨k, hk, rfl⟩ := List.getElem_of_mem hy
  have hq : ks[i].h = ks[k].h := by
    have : (⟨#[ks[i].h]⟩ : ByteArray) = ⟨#[ks[k].h]⟩ := hh
    injection this with this
    injection this with this
    injection this
  rcases Nat.lt_trichotomy k i with hlt | rfl | hlt
  · have := h i k _ _ hlt (List.getElem?_eq_getElem hi) (List.getElem?_eq_getElem hk) hq ht
    unfold Le.en; rw [this, hq]
  · rfl
  · have := h k i _ _ hlt (List.getElem?_eq_getElem hk) (List.getElem?_eq_getElem hi) hq.symm ht.symm
    unfold Le.en; rw [this, hq]
end Go.Mov
/- Contract: whether two unlike operations have one time and one letter. -/
namespace Go.Proofs.YtngikahadkoliaaGreatDoor
open Go.RowKit Go.Opn Go.Stamp Go.MapInt Go.Mov Go.Shelf Go.Rws
attribute [local go_sem] Oper.semAt_some
set_option maxRecDepth 100000 in
theorem infoLe1 : (Tryz.prog.info? 59).map (·.size) = some 2 := by kernel_rfl
set_option maxRecDepth 100000 in
theorem infoOp9 : (Tryz.prog.info? 61).map (·.size) = some 9 := by kernel_rfl
set_option maxRecDepth 100000 in
theorem guardSt : Tryz.prog.eqGuardType Tryz.prog.depth 59 = false := by kernel_rfl
set_option maxRecDepth 100000 in
theorem eq_stamp0 (a b : Tm) (w : World) : (Op.equalIn 10000 59 (.agg #[.int .u64 a.c, .int .i64 a.k]) (.agg #[.int .u64 b.c, .int .i64 b.k])).run Tryz.prog w = .ok (a.c == b.c && (a.k == b.k && true)) w := by
  rw [run_equalIn_agg w 9999 59 _ _ (by unfold Program.fieldsOf; rw [Tryz.underlying59]) (by kernel_rfl)]
  unfold Program.fieldsOf
  rw [Tryz.underlying59]
  refine eq_step (x := .int .u64 a.c) (y := .int .u64 b.c) (by decide) (by go_simp) (by go_simp) (run_equalIn_int w _ _ _ _ _ _ Tryz.underlying49) ?_
  refine eq_step (x := .int .i64 a.k) (y := .int .i64 b.k) (by decide) (by go_simp) (by go_simp) (run_equalIn_int w _ _ _ _ _ _ Tryz.underlying3) ?_
  rfl
set_option maxRecDepth 100000 in
theorem eql_st {o : Oper} {a : Act} {x y : Operand} {t : TypeId} (ho : o.op = .binOp .eql 59 x y t) (p q : Tm) (hx : a.eval x = .agg #[.int .u64 p.c, .int .i64 p.k]) (hy : a.eval y = .agg #[.int .u64 q.c, .int .i64 q.k]) (b : Bool) (hb : (p.c == q.c && (p.k == q.k && true)) = b) (w : World) :
    (execOp a.eval o).run Tryz.prog w = .ok (.value (.bool b)) w := by
  subst hb
  unfold execOp
  rw [ho]
  simp only [hx, hy, Sem.run_bind, run_eqGuard_agg w .eql 59 x y _ _ guardSt, Result.andThen_ok, run_eql_struct, eq_stamp0]
  rfl
set_option maxRecDepth 100000 in
theorem range_tm {w : World} {g o : Nat} {e : Le} (h : w.rangeAt g o e.cs) : w.rangeAt g (o + 1) [.int .u64 e.op.tm.c, .int .i64 e.op.tm.k] := fun j u hu => by
  have hj : j < 2 := (List.getElem?_eq_some_iff.1 hu).1
  have := h (j + 1) u (by
    match j, hj, hu with
    | 0, _, hu => exact hu
    | 1, _, hu => exact hu)
  rw [show o + 1 + j = o + (j + 1) by omega]
  exact this
def ocs (o : Ob) : List Value := [.int .i64 o.kind, .int .u64 o.tm.c, .int .i64 o.tm.k, .int .u64 o.thing, .int .u64 o.par, .string o.name, .bool o.dir, .string o.dg, .int .i64 o.size]
set_option maxRecDepth 100000 in
theorem range_op {w : World} {g o : Nat} {e : Le} (h : w.rangeAt g o e.cs) : w.rangeAt g o (ocs e.op) := fun j u hu => by
  have hj : j < 9 := (List.getElem?_eq_some_iff.1 hu).1
  refine h j u ?_
  have e1 : (e.cs)[j]? = (ocs e.op ++ [.int .u8 (e.h.toNat : Nat)])[j]? := rfl
  rw [e1, List.getElem?_append_left (by exact hj)]
  exact hu
end Go.Proofs.YtngikahadkoliaaGreatDoor
/- append to a row of one's own, elements of any size: where the row lies behind it; of no program. -/
namespace Go.AppendSz
open Go.RowKit
variable {P : Program} {w : World}
theorem where_append {base e : Nat} {t ty : TypeId} {i : TypeInfo} {z v : Value} {size bytes n : Nat} {xs : List Value} (ht : P.underlying t = some (.slice e)) (hi : P.info? e = some i) (hz : i.zero = some z)
    (hsize : i.size = size) (hby : i.bytes = bytes) (hown : w.ownsRow base e size v n xs)
    (ad : Addr) (m c : Nat) (news : List Value) (hl : news.length = m * size) (hu : ∀ j y, news[j]? = some y → w.cell? (ad.add j) = some y) (h1 : ∀ u ∈ news, u.oneCell' = true) (hlen : (n + m) * bytes ≤ 140737488355328) (h63 : n + m ≤ maxLen)
    (v' : Value) (w' : World) (hr : (Builtin.append_ #[t, t] ty #[v, .slice (some ad) m c]).run P w = .ok v' w') : v'.ownBlock = v.ownBlock ∨ v'.ownBlock = some w.heap.size := by
  subst hby
  subst hsize
  have hsmall : n + m ≤ 9223372036854775807 := by simp only [maxLen] at h63; omega
  rcases hown.2 with ⟨rfl, rfl⟩ | ⟨g, cap, cur, rfl, hbg, hg, hnc, hcm, hcs, htake⟩
  · by_cases hm : m = 0
    · subst hm
      have hn : news = [] := List.eq_nil_of_length_eq_zero (by simpa using hl)
      have e1 : (Builtin.append_ #[t, t] ty #[.slice none 0 0, .slice (some ad) 0 c]).run P w = .ok (.slice none 0 0) w := by
        simp [Builtin.append_, run_underlying ht, sizeOf, typeInfo, hi, Builtin.lenOf, Builtin.firstCells, loadCells, loadCellsFrom]
      rw [e1] at hr
      cases hr
      exact .inl rfl
    · have h2 := run_append_nil (P := P) w t ty e i z ht hi hz ad m c news hl hu (by omega) (by omega) (by rw [Nat.zero_add] at hlen; omega)
      rw [h2] at hr
      cases hr
      exact .inr rfl
  · by_cases hroom : n + m ≤ cap
    · have hfit : n * i.size + news.length ≤ cur.size := by rw [hl, hcs, ← Nat.add_mul]; exact Nat.mul_le_mul_right _ hroom
      have h2 := run_append_room (P := P) w t ty e i ht hi g n cap cur hg ad m c news hl hu h1 hroom hfit
      rw [h2] at hr
      cases hr
      exact .inl rfl
    · have h2 := run_append_grow (P := P) w t ty e i z ht hi hz ⟨g, 0, none⟩ n cap xs hown.1 (hown.cells (g := g) rfl) ad m c news hl hu (by omega) (by omega) (growslice_fits (by omega) hlen)
      rw [h2] at hr
      cases hr
      exact .inr rfl
theorem wpListIn_append_sz {F : Fence} {n : Nat} {ops : Array Oper} {rest : List Oper} {o : Oper} {a : Act} {Q : Exit → Act → World → Prop}
    (hg : o.guard = none) (s x : Operand) (t : TypeId) (hop : o.op = Op.call { callee := Callee.builtin Builtin.append, args := #[s, x], argTypes := #[t, t] })
    (base : Nat) (e : TypeId) (i : TypeInfo) (z : Value) (size bytes : Nat) (h1 : P.underlying t = some (.slice e)) (h2 : P.info? e = some i) (h3 : i.zero = some z) (h4 : i.size = size) (h5 : i.bytes = bytes) (h6 : z.cells.size = size) (h7 : 0 < size)
    (v : Value) (k : Nat) (xs : List Value) (hs : a.eval s = v) (hown : w.ownsRow base e size v k xs) (ad : Addr) (m c : Nat) (news : List Value) (hx : a.eval x = .slice (some ad) m c) (hn : news.length = m * size)
    (hc : ∀ j u, news[j]? = some u → w.cell? (ad.add j) = some u) (h1c : ∀ u ∈ news, u.oneCell' = true) (b1 : k + m ≤ maxLen) (b2 : (k + m) * bytes ≤ 140737488355328) (b3 : base ≤ w.heap.size)
    (hK : ∀ v' w', w'.ownsRow base e size v' (k + m) (xs ++ news) → w.grownBy w' v.ownBlock → (v'.ownBlock = v.ownBlock ∨ v'.ownBlock = some w.heap.size) → wpListIn F n P ops Q rest (a.put o.dst v') w') :
    wpListIn F n P ops Q (o :: rest) a w := by
  refine wpListIn_plain hg fun K hK' => ?_
  obtain ⟨v', w', hrun, r1, r2, _⟩ := run_append_own (P := P) w base t o.type e i z size bytes h1 h2 h3 h4 h5 h6 h7 v k xs hown ad m c news hn hc h1c b1 b2 b3
  have r3 := where_append (ty := o.type) h1 h2 h3 h4 h5 hown ad m c news hn hc h1c b2 b1 v' w' hrun
  unfold Oper.wpIn
  refine ⟨?_, ?_⟩
  · simp [Oper.about, hop, resolve, Target.leads, Sem.run_pure]
  · rw [Oper.semAt_plain F _ _ (by rw [hop]; intro c hc'; cases hc')]
    simp [execOp, hop, resolve, invoke, builtin, hs, hx, hrun, Result.andThen]
    exact hK' _ _ (hK v' w' r1 r2 r3)
end Go.AppendSz
