/- Several texts in one: Rows2. -/
import Derived.Laws.AppendOwn
import Derived.Below
import Derived.Deep.RegionLaw
/- Two rows of one's own that lie apart, each grown by append: of no program. -/
namespace Go.TwoRows
open Go.RowKit
/-- Two slices of one's own, in blocks that are not the same; what was there at the start is as it was. -/
def Two (w0 : World) (e : TypeId) (w : World) (v1 : Value) (xs : List Value) (v2 : Value) (ys : List Value) : Prop :=
  w.ownsRow w0.heap.size e 1 v1 xs.length xs ∧ w.ownsRow w0.heap.size e 1 v2 ys.length ys ∧ (v1.ownBlock = none ∨ v1.ownBlock ≠ v2.ownBlock) ∧ Below w0.heap.size w0 w
variable {base : Nat} {e : TypeId} {w0 w : World} {v1 v2 : Value} {xs ys : List Value}
theorem Two.symm (h : Two w0 e w v1 xs v2 ys) : Two w0 e w v2 ys v1 xs := by
  refine ⟨h.2.1, h.1, ?_, h.2.2.2⟩
  rcases h.2.2.1 with h1 | h1
  · cases h2 : v2.ownBlock with
    | none => exact .inl rfl
    | some g => exact .inr (by rw [h1]; simp)
  · exact .inr (Ne.symm h1)
theorem Two.alloc (h : Two w0 e w v1 xs v2 ys) (o : Obj) : Two w0 e (w.alloc o) v1 xs v2 ys := ⟨h.1.alloc o, h.2.1.alloc o, h.2.2.1, h.2.2.2.alloc h.2.2.2.size _⟩
theorem Two.drew (h : Two w0 e w v1 xs v2 ys) : Two w0 e w.drew v1 xs v2 ys := ⟨h.1, h.2.1, h.2.2.1, h.2.2.2.drew⟩
/-- []T{}, []T{}. -/
theorem Two.start (hb : Below w0.heap.size w0 w) : Two w0 e ((w.alloc (.cells #[] e)).alloc (.cells #[] e)) (.slice (some ⟨w.heap.size, 0, none⟩) 0 0) [] (.slice (some ⟨w.heap.size + 1, 0, none⟩) 0 0) [] := by
  refine ⟨World.ownsRow.alloc (World.ownsRow_made w #[] 0 hb.size (Nat.zero_le _) rfl) _, ?_, .inr (by simp [Value.ownBlock]), (hb.alloc hb.size _).alloc (Nat.le_trans hb.size (by simp)) _⟩
  have h := World.ownsRow_made (base := w0.heap.size) (e := e) (size := 1) (w.alloc (.cells #[] e)) #[] 0 (Nat.le_trans hb.size (by simp)) (Nat.zero_le _) rfl
  simpa using h
/-- A block that was laid behind the first of them stays through an append to it. -/
theorem Two.cell (h : Two w0 e w v1 xs v2 ys) {w1 w2 : World} (hg : w1.grownBy w2 v1.ownBlock) {g : Nat} {u : Value} (hu : w1.cell? ⟨g, 0, none⟩ = some u) (hlt : w.heap.size ≤ g) : w2.cell? ⟨g, 0, none⟩ = some u := by
  refine hg.cell hu ?_
  intro e1
  have := (h.1.lt _ e1.symm).2
  simp at this
  omega
theorem cell_new (w : World) (u : Value) (e : TypeId) : (w.alloc (.cells #[u] e)).cell? ⟨w.heap.size, 0, none⟩ = some u := by
  rw [cell_of_row _ _ _ _ _ _ (heap_alloc_new w _)]; rfl
theorem cell_new2 (w : World) (o : Obj) (u : Value) (e : TypeId) : ((w.alloc o).alloc (.cells #[u] e)).cell? ⟨w.heap.size + 1, 0, none⟩ = some u := by
  rw [cell_of_row _ _ _ _ _ _ (heap_alloc2_new w _ _)]; rfl
theorem cell_old2 (w : World) (o : Obj) (u : Value) (e : TypeId) : ((w.alloc (.cells #[u] e)).alloc o).cell? ⟨w.heap.size, 0, none⟩ = some u := by
  rw [cell_of_row _ _ _ _ _ _ (heap_alloc2_old w _ _)]; rfl
/-- Where a slice lies behind an append: where it lay, or in a new block. -/
theorem block_of_append {P : Program} {t ty : TypeId} {i : TypeInfo} {z : Value} {bytes : Nat} (ht : P.underlying t = some (.slice e)) (hi : P.info? e = some i) (hz : i.zero = some z)
    (hsize : i.size = 1) (hby : i.bytes = bytes) (hown : w.ownsRow base e 1 v1 xs.length xs)
    (ad : Addr) (c : Nat) (u : Value) (hu : ∀ j y, [u][j]? = some y → w.cell? (ad.add j) = some y) (h1 : u.oneCell' = true) (hlen : (xs.length + 1) * bytes ≤ 140737488355328) (h63 : xs.length + 1 ≤ maxLen)
    (v' : Value) (w' : World) (hr : (Builtin.append_ #[t, t] ty #[v1, .slice (some ad) 1 c]).run P w = .ok v' w') : v'.ownBlock = v1.ownBlock ∨ v'.ownBlock = some w.heap.size := by
  subst hby
  have hsmall : xs.length + 1 ≤ 9223372036854775807 := by simp only [maxLen] at h63; omega
  have hl : [u].length = 1 * i.size := by rw [hsize]; rfl
  have hone : ∀ x ∈ [u], x.oneCell' = true := by simpa using h1
  rcases hown.2 with ⟨rfl, hn⟩ | ⟨g, cap, cur, rfl, hbg, hg, hnc, hcm, hcs, htake⟩
  · have h2 := run_append_nil (P := P) w t ty e i z ht hi hz ad 1 c [u] hl hu (by omega) (by omega) (by rw [hn] at hlen; omega)
    rw [h2] at hr
    cases hr
    exact .inr rfl
  · by_cases hroom : xs.length + 1 ≤ cap
    · have h2 := run_append_room (P := P) w t ty e i ht hi g xs.length cap cur hg ad 1 c [u] hl hu hone hroom (by rw [hsize, hcs]; simp; omega)
      rw [h2] at hr
      cases hr
      exact .inl rfl
    · have h2 := run_append_grow (P := P) w t ty e i z ht hi hz ⟨g, 0, none⟩ xs.length cap xs (by rw [hsize]; simp) (hown.cells (g := g) rfl) ad 1 c [u] hl hu (by omega) (by omega) (growslice_fits (by omega) hlen)
      rw [h2] at hr
      cases hr
      exact .inr rfl
/-- append of one value to the first of two slices, as one step of a region. -/
theorem step_append {P : Program} {ops : Array Oper} {o : Oper} {a : Act} {K : Act → World → Prop} {Q : Exit → Act → World → Prop} {E : Prop}
    (hgd : o.guard = none) (s x : Operand) (t : TypeId) (ho : o.op = .call { callee := .builtin .append, args := #[s, x], argTypes := #[t, t] })
    (i : TypeInfo) (z : Value) (bytes : Nat) (ht : P.underlying t = some (.slice e)) (hi : P.info? e = some i) (hz : i.zero = some z)
    (hsize : i.size = 1) (hby : i.bytes = bytes) (hzs : z.cells.size = 1)
    (hs : a.eval s = v1) (h2 : Two w0 e w v1 xs v2 ys) (g c : Nat) (u : Value) (hx : a.eval x = .slice (some ⟨g, 0, none⟩) 1 c) (hu : w.cell? ⟨g, 0, none⟩ = some u) (h1 : u.oneCell' = true)
    (hlen : (xs.length + 1) * bytes ≤ 140737488355328) (h63 : xs.length + 1 ≤ maxLen)
    (h : ∀ v' w', Two w0 e w' v' (xs ++ [u]) v2 ys → w.grownBy w' v1.ownBlock → K (a.put o.dst v') w') :
    if Region.wanted o (yielded ops a.tmps) = true then Oper.wp P o a w K Q else E := by
  have hw : Region.wanted o (yielded ops a.tmps) = true := by simp [Region.wanted, hgd]
  rw [if_pos hw]
  have hu' : ∀ j y, [u][j]? = some y → w.cell? ((⟨g, 0, none⟩ : Addr).add j) = some y := by
    intro j y hj
    match j, hj with
    | 0, hj => simp at hj; subst hj; simpa [Addr.add] using hu
  have hone : ∀ x ∈ [u], x.oneCell' = true := by simpa using h1
  obtain ⟨v', w', hr, ho', hg, _⟩ := run_append_own (P := P) w w0.heap.size t o.type e i z 1 bytes ht hi hz hsize hby hzs (by decide) v1 xs.length xs h2.1 ⟨g, 0, none⟩ 1 c [u] rfl hu' hone h63 hlen h2.2.2.2.size
  unfold Oper.wp execOp
  simp only [ho, resolve, invoke, builtin, Sem.run_bind, Sem.run_pure, Result.andThen_ok, List.map_toArray, List.map_cons, List.map_nil, hs, hx, hr]
  refine h v' w' ⟨by simpa using ho', h2.2.1.kept hg h2.symm.2.2.1, ?_, h2.2.2.2.grown hg h2.2.2.2.size (fun q hq => (h2.1.lt q hq).1)⟩ hg
  have hbk := block_of_append (ty := o.type) ht hi hz hsize hby h2.1 ⟨g, 0, none⟩ c u hu' h1 hlen h63 v' w' hr
  rcases hbk with hbk | hbk
  · rw [hbk]; exact h2.2.2.1
  · refine .inr ?_
    rw [hbk]
    intro e1
    have := (h2.2.1.lt _ e1.symm).2
    omega
/-- append of one value to one slice of one's own, as one step of a region. -/
theorem step_append1 {P : Program} {ops : Array Oper} {o : Oper} {a : Act} {K : Act → World → Prop} {Q : Exit → Act → World → Prop} {E : Prop}
    (hgd : o.guard = none) (s x : Operand) (t : TypeId) (ho : o.op = .call { callee := .builtin .append, args := #[s, x], argTypes := #[t, t] })
    (i : TypeInfo) (z : Value) (bytes : Nat) (ht : P.underlying t = some (.slice e)) (hi : P.info? e = some i) (hz : i.zero = some z)
    (hsize : i.size = 1) (hby : i.bytes = bytes) (hzs : z.cells.size = 1) (n : Nat)
    (hs : a.eval s = v1) (h2 : w.ownsRow base e 1 v1 n xs) (g c : Nat) (u : Value) (hx : a.eval x = .slice (some ⟨g, 0, none⟩) 1 c) (hu : w.cell? ⟨g, 0, none⟩ = some u) (h1 : u.oneCell' = true)
    (hlen : (n + 1) * bytes ≤ 140737488355328) (h63 : n + 1 ≤ maxLen) (hb : base ≤ w.heap.size)
    (h : ∀ v' w', w'.ownsRow base e 1 v' (n + 1) (xs ++ [u]) → w.grownBy w' v1.ownBlock → K (a.put o.dst v') w') :
    if Region.wanted o (yielded ops a.tmps) = true then Oper.wp P o a w K Q else E := by
  have hw : Region.wanted o (yielded ops a.tmps) = true := by simp [Region.wanted, hgd]
  rw [if_pos hw]
  refine wp_append_own w s x t ho base e i z 1 bytes ht hi hz hsize hby hzs (by decide) v1 n xs hs h2 ⟨g, 0, none⟩ 1 c [u] hx rfl ?_ (by simpa using h1) h63 hlen hb (fun v' w' h3 h4 _ => h v' w' h3 h4)
  intro j y hj
  match j, hj with
  | 0, hj => simp at hj; subst hj; simpa [Addr.add] using hu
theorem own_below {w' : World} {n : Nat} (h : w.ownsRow base e 1 v1 n xs) (hb : Below w.heap.size w w') : w'.ownsRow base e 1 v1 n xs :=
  h.kept (row := none) ⟨hb.os, hb.tape, hb.output, hb.size, fun k hk _ => hb.block k hk⟩ (by cases v1.ownBlock <;> simp)
end Go.TwoRows
