/- A file as it lies in memory: its struct, its rows of bytes (one may lie at another's beginning), its row of pieces; what an append does to them; what stays when other blocks turn; of no program but for the numbers of its types. -/
import Derived.Test.YtnjkahoaogeecaaDiskMath
import Derived.Test.YtnjkahoaogeecaaShaMath
import Derived.WalkKit
import Derived.Lib.AppendStr
import Derived.Maps.AppendAt
import Derived.Deep.Heap
import Derived.Deep.Draws
namespace Go.Dk
open Go.RowKit
/-! ### what turns -/
/-- From w to w' nothing turns but blocks of X and new ones. -/
structure Tch (X : Nat → Prop) (w w' : World) : Prop where
  os : w'.os = w.os
  tape : w'.tape = w.tape
  output : w'.output = w.output
  size : w.heap.size ≤ w'.heap.size
  block : ∀ b, b < w.heap.size → ¬ X b → w'.heap[b]? = w.heap[b]?
theorem Tch.refl (X : Nat → Prop) (w : World) : Tch X w w := ⟨rfl, rfl, rfl, Nat.le_refl _, fun _ _ _ => rfl⟩
theorem Tch.trans {X Y Z : Nat → Prop} {w w' w'' : World} (h : Tch X w w') (k : Tch Y w' w'') (hX : ∀ b, X b → Z b) (hY : ∀ b, b < w.heap.size → Y b → Z b) : Tch Z w w'' :=
  ⟨k.os.trans h.os, k.tape.trans h.tape, k.output.trans h.output, Nat.le_trans h.size k.size, fun b hb hz => (k.block b (Nat.lt_of_lt_of_le hb h.size) fun y => hz (hY b hb y)).trans (h.block b hb fun x => hz (hX b x))⟩
theorem Tch.mono {X Z : Nat → Prop} {w w' : World} (h : Tch X w w') (hX : ∀ b, X b → Z b) : Tch Z w w' := ⟨h.os, h.tape, h.output, h.size, fun b hb hz => h.block b hb fun x => hz (hX b x)⟩
theorem Tch.and {X : Nat → Prop} {w w' w'' : World} (h : Tch X w w') (k : Tch X w' w'') : Tch X w w'' := h.trans k (fun _ x => x) (fun _ _ x => x)
theorem Tch.of_below {X : Nat → Prop} {w w' : World} (h : Below w.heap.size w w') : Tch X w w' := ⟨h.os, h.tape, h.output, h.size, fun b hb _ => h.block b hb⟩
theorem Tch.of_grown {X : Nat → Prop} {w w' : World} {r : Option Nat} (h : w.grownBy w' r) (hr : ∀ b, r = some b → X b) : Tch X w w' := ⟨h.os, h.tape, h.output, h.size, fun b hb hx => h.block b hb fun e => hx (hr b e.symm)⟩
theorem Tch.alloc (X : Nat → Prop) (w : World) (o : Obj) : Tch X w (w.alloc o) := .of_below ((Below.refl _ _).alloc (Nat.le_refl _) o)
theorem Tch.drew {X : Nat → Prop} {w w' : World} (h : Tch X w w') : Tch X w w'.drew := ⟨h.os, h.tape, h.output, h.size, h.block⟩
theorem Tch.drewN {X : Nat → Prop} {w w' : World} (h : Tch X w w') (n : Nat) : Tch X w (w'.drewN n) := ⟨h.os, h.tape, h.output, h.size, h.block⟩
theorem Tch.set (X : Nat → Prop) (w : World) (a : Addr) (v : Value) (ha : X a.block) : Tch X w (w.setCell a v) :=
  ⟨rfl, rfl, rfl, by rw [Deep.nblk_setCell]; exact Nat.le_refl _, fun b _ hx => Deep.blk_setCell_other _ _ _ _ fun e => hx (e ▸ ha)⟩
theorem Tch.turned {X : Nat → Prop} {w w' : World} {b : Nat} (h : w.mapTurned w' b) (hb : X b) : Tch X w w' := .of_grown h.grown fun c e => by cases e; exact hb
theorem Tch.below {X : Nat → Prop} {B : Nat} {w w' : World} (h : Tch X w w') (hX : ∀ b, X b → B ≤ b) (hB : B ≤ w.heap.size) : Below B w w' :=
  ⟨h.os, h.tape, h.output, h.size, fun b hb => h.block b (Nat.lt_of_lt_of_le hb hB) fun x => Nat.lt_irrefl _ (Nat.lt_of_lt_of_le hb (hX b x))⟩
/-! ### rows of bytes -/
theorem bs_length (l : Bs) : (bs l).length = l.length := by simp [bs]
theorem bs_append (a b : Bs) : bs (a ++ b) = bs a ++ bs b := by simp [bs]
theorem bs_str (s : ByteArray) : Lib.strCells s = bs s.data.toList := rfl
theorem block_lt {w : World} {b : Nat} {o : Obj} (h : w.heap[b]? = some o) : b < w.heap.size := (Array.getElem?_eq_some_iff.1 h).1
/-- The slice value v holds the bytes l, in a row of the call's own. -/
def Row (base : Nat) (w : World) (v : Value) (l : Bs) : Prop := w.ownsRow base 5 1 v l.length (bs l)
theorem Row.nil (base : Nat) (w : World) : Row base w (.slice none 0 0) [] := World.ownsRow_nil _ _ _ _
theorem ownsRow_kept {base e k n : Nat} {w w' : World} {v : Value} {xs : List Value} (h : w.ownsRow base e k v n xs) (hb : ∀ g, v.ownBlock = some g → w'.heap[g]? = w.heap[g]?) : w'.ownsRow base e k v n xs := by
  refine ⟨h.1, ?_⟩
  rcases h.2 with h' | ⟨g, cap, cur, rfl, h2, h3, h4⟩
  · exact .inl h'
  · exact .inr ⟨g, cap, cur, rfl, h2, (hb g rfl).trans h3, h4⟩
theorem ownsRow_tag {base e k n : Nat} {w : World} {v : Value} {xs : List Value} (h : w.ownsRow base e k v n xs) {g : Nat} (hg : v.ownBlock = some g) : ∃ cur, w.heap[g]? = some (.cells cur e (0, 0)) := by
  rcases h.2 with ⟨rfl, _⟩ | ⟨g', cap, cur, rfl, h2, h3, h4⟩
  · cases hg
  · cases hg; exact ⟨cur, h3⟩
theorem ownsRow_ge {base e k n : Nat} {w : World} {v : Value} {xs : List Value} (h : w.ownsRow base e k v n xs) {g : Nat} (hg : v.ownBlock = some g) : base ≤ g := by
  rcases h.2 with ⟨rfl, _⟩ | ⟨g', cap, cur, rfl, h2, h3, h4⟩
  · cases hg
  · cases hg; exact h2
theorem ownsRow_base {base base' e k n : Nat} {w : World} {v : Value} {xs : List Value} (h : w.ownsRow base e k v n xs) (hb : base' ≤ base) : w.ownsRow base' e k v n xs := by
  refine ⟨h.1, ?_⟩
  rcases h.2 with h' | ⟨g, cap, cur, rfl, h2, h3, h4⟩
  · exact .inl h'
  · exact .inr ⟨g, cap, cur, rfl, Nat.le_trans hb h2, h3, h4⟩
theorem Row.form {base : Nat} {w : World} {v : Value} {l : Bs} (h : Row base w v l) : ∃ a c, v = .slice a l.length c := by
  rcases h.2 with ⟨rfl, h'⟩ | ⟨g, cap, cur, h', _⟩
  · exact ⟨none, 0, by rw [h']⟩
  · exact ⟨_, _, h'⟩
/-- A shorter one at its beginning. -/
theorem Row.take {base : Nat} {w : World} {a : Option Addr} {n c : Nat} {l : Bs} (h : Row base w (.slice a n c) l) (m : Nat) (hm : m ≤ l.length) : Row base w (.slice a m c) (l.take m) := by
  have hl : (l.take m).length = m := by simp; omega
  refine ⟨by rw [bs_length, Nat.mul_one], ?_⟩
  rcases h.2 with ⟨h', h0⟩ | ⟨g, cap, cur, h', h2, h3, h4, h5, h6, h7⟩
  · cases h'
    have : m = 0 := by omega
    subst this
    exact .inl ⟨rfl, hl⟩
  · cases h'
    refine .inr ⟨g, c, cur, by rw [hl], h2, h3, by omega, h5, h6, ?_⟩
    rw [hl]
    have : cur.toList.take (m * 1) = (cur.toList.take (l.length * 1)).take m := by rw [List.take_take]; congr 1; omega
    rw [this, h7]
    simp [bs, List.map_take]
/-- append(b, s...): where the new row lies; what lies at the old one's beginning stays. -/
theorem run_append_str {P : Program} (w : World) (t u ty : TypeId) (i : TypeInfo) (ht : P.underlying t = some (.slice 5)) (hu : P.underlying u = some .string) (hi : P.info? 5 = some i) (hz : i.zero = some (.int .u8 0)) (hsize : i.size = 1) (hby : i.bytes = 1)
    (base : Nat) (v : Value) (l : Bs) (hown : Row base w v l) (s : ByteArray) (hlen : l.length + s.size ≤ 1099511627776) (hbase : base ≤ w.heap.size) :
    ∃ v' w', (Builtin.append_ #[t, u] ty #[v, .string s]).run P w = .ok v' w' ∧ (Row base w' v' (l ++ s.data.toList) ∧ w.grownBy w' v.ownBlock ∧ (v'.ownBlock = v.ownBlock ∨ v'.ownBlock = none ∨ v'.ownBlock = some w.heap.size) ∧
      (∀ u' l', Row base w u' l' → u'.ownBlock = v.ownBlock → l'.length ≤ l.length → Row base w' u' l')) := by
  obtain ⟨v', w', hr, h2, h3, h4⟩ := Lib.run_append_own_string (P := P) w base t u ty 5 i ht hu hi hz hsize hby v l.length (bs l) hown s (by unfold maxLen; omega) (by omega) hbase
  have hd : s.size = s.data.toList.length := by simp
  have hrow : Row base w' v' (l ++ s.data.toList) := by
    unfold Row
    rw [List.length_append, bs_append, ← hd]
    exact h2
  refine ⟨v', w', hr, hrow, h3, ?_⟩
  rcases hown.2 with ⟨rfl, h0⟩ | ⟨g, cap, cur, rfl, hbg, hg, hnc, hcm, hcs, htake⟩
  · have hrest : ∀ u' l', Row base w u' l' → u'.ownBlock = (Value.slice none 0 0).ownBlock → l'.length ≤ l.length → Row base w' u' l' := fun u' l' hu' e _ => ownsRow_kept hu' fun g hg => by rw [e] at hg; cases hg
    refine ⟨?_, hrest⟩
    by_cases hm : s.size = 0
    · rw [h4.2 ⟨rfl, hm⟩]
      exact .inl rfl
    · have hr' := run_append_nil_string (P := P) w t u ty 5 i (.int .u8 0) ht hu hi hz s (by omega) (by omega) (by rw [hby]; omega)
      rw [hr] at hr'
      cases hr'
      exact .inr (.inr rfl)
  · by_cases hroom : l.length + s.size ≤ cap
    · have hcs' : cur.size = cap := by simpa using hcs
      have hr' := Lib.run_append_room_string (P := P) w t u ty 5 i ht hu hi hsize g l.length cap cur hg s hroom (by omega)
      rw [hr] at hr'
      cases hr'
      refine ⟨.inl rfl, fun u' l' hu' e hl => ?_⟩
      refine ⟨hu'.1, ?_⟩
      rcases hu'.2 with hn | ⟨g', cap', cur', rfl, k2, k3, k4, k5, k6, k7⟩
      · exact .inl hn
      · simp only [Value.ownBlock] at e
        cases e
        rw [hg] at k3
        cases k3
        refine .inr ⟨g, cap', _, rfl, k2, setRow_heap w g cur _ 5 _ hg, k4, k5, ?_, ?_⟩
        · rw [← k6]
          simp only [List.size_toArray, List.length_append, List.length_take, List.length_drop, Array.length_toList, Lib.strCells_length]
          omega
        · rw [← k7]
          simp only [Nat.mul_one]
          rw [List.append_assoc, List.take_append_of_le_length (by simp; omega), List.take_take]
          congr 1
          omega
    · have holds : ∀ j u, (bs l)[j]? = some u → w.cell? ((⟨g, 0, none⟩ : Addr).add j) = some u := hown.cells (g := g) rfl
      have hr' := Lib.run_append_grow_string (P := P) w t u ty 5 i (.int .u8 0) ht hu hi hz ⟨g, 0, none⟩ l.length cap (bs l) (by rw [hsize, bs_length, Nat.mul_one]) holds s (by omega) (by omega) (by rw [hby]; exact growslice_fits (by omega) (by omega))
      rw [hr] at hr'
      cases hr'
      refine ⟨.inr (.inr rfl), fun u' l' hu' e hl => ownsRow_kept hu' fun g' hg' => ?_⟩
      obtain ⟨cur', hc'⟩ := ownsRow_tag hu' hg'
      exact heap_alloc_old w.drew _ (block_lt hc')
theorem append_str {P : Program} (w : World) {ops : Array Oper} {rest : List Oper} {o : Oper} {a : Act} {Q : Exit → Act → World → Prop}
    (hgd : o.guard = none) (sl x : Operand) (t u : TypeId) (ho : o.op = .call { callee := .builtin .append, args := #[sl, x], argTypes := #[t, u] })
    (i : TypeInfo) (ht : P.underlying t = some (.slice 5)) (hu : P.underlying u = some .string) (hi : P.info? 5 = some i) (hz : i.zero = some (.int .u8 0)) (hsize : i.size = 1) (hby : i.bytes = 1)
    (base : Nat) (v : Value) (l : Bs) (hs : a.eval sl = v) (hown : Row base w v l) (s : ByteArray) (hx : a.eval x = .string s)
    (hlen : l.length + s.size ≤ 1099511627776) (hbase : base ≤ w.heap.size)
    (h : ∀ v' w', Row base w' v' (l ++ s.data.toList) → w.grownBy w' v.ownBlock → (v'.ownBlock = v.ownBlock ∨ v'.ownBlock = none ∨ v'.ownBlock = some w.heap.size) →
      (∀ u' l', Row base w u' l' → u'.ownBlock = v.ownBlock → l'.length ≤ l.length → Row base w' u' l') → wpList P ops Q rest (a.put o.dst v') w') : wpList P ops Q (o :: rest) a w := by
  refine wpList_plain hgd fun K hK => ?_
  obtain ⟨v', w', hr, h2, h3, h4, h5⟩ := run_append_str (P := P) w t u o.type i ht hu hi hz hsize hby base v l hown s hlen hbase
  unfold Oper.wp execOp
  simp only [ho, resolve, invoke, builtin, Sem.run_bind, Sem.run_pure, Result.andThen_ok, List.map_toArray, List.map_cons, List.map_nil, hs, hx, hr]
  exact hK _ _ (h v' w' h2 h3 h4 h5)
/-- .. as a step of a region that draws. -/
theorem step_append_str {P : Program} (w : World) {ops : Array Oper} {o : Oper} {a : Act} {K : Act → World → Prop} {Q : Exit → Act → World → Prop} {E : Prop}
    (hgd : o.guard = none) (sl x : Operand) (t u : TypeId) (ho : o.op = .call { callee := .builtin .append, args := #[sl, x], argTypes := #[t, u] })
    (i : TypeInfo) (ht : P.underlying t = some (.slice 5)) (hu : P.underlying u = some .string) (hi : P.info? 5 = some i) (hz : i.zero = some (.int .u8 0)) (hsize : i.size = 1) (hby : i.bytes = 1)
    (base : Nat) (v : Value) (l : Bs) (hs : a.eval sl = v) (hown : Row base w v l) (s : ByteArray) (hx : a.eval x = .string s)
    (hlen : l.length + s.size ≤ 1099511627776) (hbase : base ≤ w.heap.size)
    (h : ∀ v' w', Row base w' v' (l ++ s.data.toList) → w.grownBy w' v.ownBlock → (v'.ownBlock = v.ownBlock ∨ v'.ownBlock = none ∨ v'.ownBlock = some w.heap.size) →
      (∀ u' l', Row base w u' l' → u'.ownBlock = v.ownBlock → l'.length ≤ l.length → Row base w' u' l') → K (a.put o.dst v') w') :
    if Region.wanted o (yielded ops a.tmps) = true then Oper.wp P o a w K Q else E := by
  have hw : Region.wanted o (yielded ops a.tmps) = true := by simp [Region.wanted, hgd]
  rw [if_pos hw]
  obtain ⟨v', w', hr, h2, h3, h4, h5⟩ := run_append_str (P := P) w t u o.type i ht hu hi hz hsize hby base v l hown s hlen hbase
  unfold Oper.wp execOp
  simp only [ho, resolve, invoke, builtin, Sem.run_bind, Sem.run_pure, Result.andThen_ok, List.map_toArray, List.map_cons, List.map_nil, hs, hx, hr]
  exact h v' w' h2 h3 h4 h5
end Go.Dk
