/- Several texts in one: ImageGather, ImageBefore, ImagePath. -/
import Derived.Test.YtnbhchdaobimmaaGreatDoorRunAQ
import Derived.Test.YtnbhchdaobimmaaGreatDoorRunAS
import Derived.Test.YtnbhchdaobimmaaGreatDoorRunAH
import Derived.Test.YtnbhchdaobimmaaGreatDoorRunAI
/- The things of a tree, gathered below their parents: what holds from round to round. -/
namespace Go.Rws
open Go.RowKit
variable {α : Type} {cs : α → List Value} {z : Nat} {T : TypeId} {W w : World} {xs : List α} {P : Program}
/-- append to a row of one's own: it stays where it was, or all that was there stands. -/
theorem append_keeps {base e : Nat} {t ty : TypeId} {i : TypeInfo} {z v : Value} {size bytes n : Nat} {xs : List Value} (ht : P.underlying t = some (.slice e)) (hi : P.info? e = some i) (hz : i.zero = some z)
  (hsize : i.size = size) (hby : i.bytes = bytes) (hown : w.ownsRow base e size v n xs)
  (ad : Addr) (m c : Nat) (news : List Value) (hl : news.length = m * size) (hu : ∀ j y, news[j]? = some y → w.cell? (ad.add j) = some y) (h1 : ∀ u ∈ news, u.oneCell' = true) (hlen : (n + m) * bytes ≤ 140737488355328) (h63 : n + m ≤ maxLen)
  (v' : Value) (w' : World) (hr : (Builtin.append_ #[t, t] ty #[v, .slice (some ad) m c]).run P w = .ok v' w') : v'.ownBlock = v.ownBlock ∨ Below w.heap.size w w' := by
 subst hby
 subst hsize
 have hsmall : n + m ≤ 9223372036854775807 := by simp only [maxLen] at h63; omega
 rcases hown.2 with ⟨rfl, rfl⟩ | ⟨g, cap, cur, rfl, hbg, hg, hnc, hcm, hcs, htake⟩
 ·by_cases hm : m = 0
  ·subst hm
   have e1 : (Builtin.append_ #[t, t] ty #[.slice none 0 0, .slice (some ad) 0 c]).run P w = .ok (.slice none 0 0) w := by
    simp [Builtin.append_, run_underlying ht, sizeOf, typeInfo, hi, Builtin.lenOf, Builtin.firstCells, loadCells, loadCellsFrom]
   rw [e1] at hr
   cases hr
   exact .inl rfl
  ·have h2 := run_append_nil (P := P) w t ty e i z ht hi hz ad m c news hl hu (by omega) (by omega) (by rw [Nat.zero_add] at hlen; omega)
   rw [h2] at hr
   cases hr
   exact .inr ((Below.refl _ w).drew.alloc (Nat.le_refl _) _)
 ·by_cases hroom : n + m ≤ cap
  ·have hfit : n * i.size + news.length ≤ cur.size := by rw [hl, hcs, ← Nat.add_mul]; exact Nat.mul_le_mul_right _ hroom
   have h2 := run_append_room (P := P) w t ty e i ht hi g n cap cur hg ad m c news hl hu h1 hroom hfit
   rw [h2] at hr
   cases hr
   exact .inl rfl
  ·have h2 := run_append_grow (P := P) w t ty e i z ht hi hz ⟨g, 0, none⟩ n cap xs hown.1 (hown.cells (g := g) rfl) ad m c news hl hu (by omega) (by omega) (growslice_fits (by omega) hlen)
   rw [h2] at hr
   cases hr
   exact .inr ((Below.refl _ w).drew.alloc (Nat.le_refl _) _)
/-- A whole row is added, in a region that draws its order. -/
theorem OwnR.appendWp {a0 : Option Addr} {n0 c0 : Nat} (h : OwnR cs z T W (.slice a0 n0 c0) xs w) (ys : List α) (hz : ∀ x, (cs x).length = z) (h1 : ∀ u ∈ ys.flatMap cs, u.oneCell' = true) (hz0 : 0 < z) {zero : Value} {by_ : Nat} (hi : (P.info? T).map (fun i => (i.zero, i.size, i.bytes)) = some (some zero, z, by_)) (hzs : zero.cells.size = z) (hlen : xs.length + ys.length ≤ 100000) (hby : by_ ≤ 10000)
  {o : Oper} {a : Act} {K : Act → World → Prop} {Q : Exit → Act → World → Prop} (s y : Operand) (t : TypeId) (ht : P.underlying t = some (.slice T))
  (ho : o.op = .call { callee := .builtin .append, args := #[s, y], argTypes := #[t, t] }) (hs : a.eval s = .slice a0 n0 c0) (hsrc : RegionOwn.Holds w (a.eval y) z ys.length (ys.flatMap cs))
  (k : ∀ a1 c1 w1, OwnR cs z T W (.slice a1 (xs ++ ys).length c1) (xs ++ ys) w1 → (∀ g off j x, a0 = some ⟨g, off, none⟩ → xs[j]? = some x → w.rangeAt g (off + j * z) (cs x) → w1.rangeAt g (off + j * z) (cs x)) → K (a.put o.dst (.slice a1 (xs ++ ys).length c1)) w1) : Oper.wp P o a w K Q := by
 obtain ⟨i, hi0, hi1, hi2, hi3⟩ := info_of hi
 have hsz := h.below.size
 have hmul : (xs.length + ys.length) * by_ ≤ 100000 * 10000 := Nat.mul_le_mul (by omega) hby
 have hn0 : n0 = xs.length := by
  obtain ⟨a', c', e⟩ := h.form
  simp only [Value.slice.injEq] at e
  exact e.2.1
 subst hn0
 have key : ∃ v w1, (Builtin.append_ #[t, t] o.type #[.slice a0 xs.length c0, a.eval y]).run P w = .ok v w1 ∧ w1.ownsRow W.heap.size T z v (xs.length + ys.length) (xs.flatMap cs ++ ys.flatMap cs) ∧ w.grownBy w1 (Value.slice a0 xs.length c0).ownBlock ∧ (v.ownBlock = (Value.slice a0 xs.length c0).ownBlock ∨ Below w.heap.size w w1) := by
  rcases hsrc.2 with ⟨h2, h3⟩ | ⟨ad, cap, h2, h3⟩
  ·have hys : ys = [] := List.eq_nil_of_length_eq_zero h3
   subst hys
   rw [h2]
   exact ⟨_, _, run_append_owned_none (P := P) (w := w) W.heap.size t o.type T i z ht hi0 _ _ _ h.own, by simpa using h.own, ⟨rfl, rfl, rfl, Nat.le_refl _, fun _ _ _ => rfl⟩, .inl rfl⟩
  ·rw [h2]
   obtain ⟨v, w1, hr, r1, r2, _⟩ := run_append_own (P := P) w W.heap.size t o.type T i zero z by_ ht hi0 hi1 hi2 hi3 hzs hz0 _ _ _ h.own ad ys.length cap (ys.flatMap cs) (flat_len hz ys) h3 h1 (by unfold maxLen; omega) (by omega) hsz
   exact ⟨v, w1, hr, r1, r2, append_keeps ht hi0 hi1 hi2 hi3 h.own ad ys.length cap (ys.flatMap cs) (flat_len hz ys) h3 h1 (by omega) (by unfold maxLen; omega) v w1 hr⟩
 obtain ⟨v, w1, hr, hown, hgrow, hat⟩ := key
 have e1 : xs.length + ys.length = (xs ++ ys).length := List.length_append.symm
 have hf : ∃ a c, v = .slice a (xs ++ ys).length c := by
  rcases hown.2 with ⟨e, h0⟩ | ⟨j, cap, cur, rfl, _⟩
  ·exact ⟨none, 0, by rw [e, ← e1, h0]⟩
  ·exact ⟨_, _, by rw [e1]⟩
 obtain ⟨a1, c1, rfl⟩ := hf
 have hrun : (execOp a.eval o).run P w = .ok (.value (.slice a1 (xs ++ ys).length c1)) w1 := by
  simp [execOp, ho, hs, resolve, invoke, builtin, hr, Result.andThen]
 unfold Oper.wp
 rw [hrun]
 have hown2 : w1.ownsRow W.heap.size T z (.slice a1 (xs ++ ys).length c1) (xs ++ ys).length ((xs ++ ys).flatMap cs) := by
  rw [List.flatMap_append, ← e1]
  rw [← e1] at hown
  exact hown
 refine k a1 c1 w1 ⟨hown2, h.below.grown hgrow hsz fun j e => (h.own.lt j e).1⟩ fun g off j x ea hj hr0 => ?_
 rcases hat with e | e
 ·have hR := RowsAt.of_own (cs := cs) hz hown2
  obtain ⟨g2, off2, e2, _, _, _, hrg⟩ := hR.at (fun e9 => by have h9 := (List.getElem?_eq_some_iff.1 hj).1; rw [(List.append_eq_nil_iff.1 e9).1] at h9; exact absurd h9 (Nat.not_lt_zero _))
  have hx2 : (xs ++ ys)[j]? = some x := by rw [List.getElem?_append_left (List.getElem?_eq_some_iff.1 hj).1]; exact hj
  have h0 : off = 0 := by
   rcases h.own.2 with ⟨e3, _⟩ | ⟨q, cap, cur, e3, _⟩
   ·rw [ea] at e3; cases e3
   ·rw [ea] at e3
    simp only [Value.slice.injEq, Option.some.injEq, Addr.mk.injEq] at e3
    exact e3.1.2.1
  have h1 : off2 = 0 := by
   rcases hown2.2 with ⟨e3, _⟩ | ⟨q, cap, cur, e3, _⟩
   ·rw [e2] at e3; cases e3
   ·rw [e2] at e3
    simp only [Value.slice.injEq, Option.some.injEq, Addr.mk.injEq] at e3
    exact e3.1.2.1
  rw [ea, e2] at e
  have h2 : g2 = g := by injection e
  subst h2 h0 h1
  exact hrg j x hx2
 ·have hg : g < w.heap.size := (h.own.lt g (by rw [ea]; rfl)).2
  exact fun q u hu => (e.cell (p := ⟨g, off + j * z + q, none⟩) hg).trans (hr0 q u hu)
end Go.Rws
namespace Go.Proofs.YtnbhchdaobimmaaGreatDoor
open Go.RowKit Go.Img Go.Shelf Go.Rws Go.MapInt
open Go.Mov hiding fold
attribute [local go_sem] Oper.semAt_some
/-- While all things are gathered: the map in block m, its box bK; the rows are apart from some blocks. -/
def Gd (bK m n1 : Nat) (S : Nat → Prop) (w0 : World) (pre : List Th) (W : World) : Prop :=
 (∃ L, Kd Tryz.prog 49 79 m w0.heap.size S pre L W) ∧ Boxed W bK 74 (.map (some m)) ∧ Below w0.heap.size w0 W ∧ n1 ≤ W.heap.size
theorem Gd.own {p : Th → Prop} (bK m n1 : Nat) (S : Nat → Prop) (w0 : World) (B : Nat) (hB : w0.heap.size ≤ B) (hm : m < B) (hK : bK < B) : OwnFrom B (fun (pre : List (Tp p)) W => Gd bK m n1 S w0 (pre.map (·.1)) W) := by
 rintro pre A C row ⟨⟨L, h1⟩, h2, h3, h4⟩ hg hr
 have hne : ∀ q : Nat, q < B → row ≠ some q := fun q hq e => by have := (hr q e).1; omega
 refine ⟨⟨L, h1.turn (hg.block m h1.map.lt (fun e => hne m hm e.symm)) fun q ⟨cur, z, hq⟩ => hg.block q (Array.getElem?_eq_some_iff.1 hq).1 fun e => ?_⟩, ?_, h3.grown hg h3.size (fun j e => Nat.le_trans hB (hr j e).1), Nat.le_trans h4 hg.size⟩
 ·obtain ⟨_, o, ho, hc⟩ := hr q e.symm
  rw [hq] at ho
  cases ho
  cases hc
 ·exact (hg.block bK h2.lt (fun e => hne bK hK e.symm)).trans h2
theorem Gd.step {bK m n1 : Nat} {S : Nat → Prop} {w0 : World} {pre : List Th} {W W' : World} (h : Gd bK m n1 S w0 pre W) (k : Below W.heap.size W W') : Gd bK m n1 S w0 pre W' := by
 obtain ⟨⟨L, h1⟩, h2, h3, h4⟩ := h
 exact ⟨⟨L, h1.below k⟩, (k.block _ h2.lt).trans h2, h3.trans (k.mono h3.size), Nat.le_trans h4 k.size⟩
set_option maxRecDepth 100000 in
theorem undKm : Tryz.prog.underlying 74 = some (.map 49 80) := by kernel_rfl
set_option maxRecDepth 100000 in
theorem zeroThs (w : World) : (zeroValue 80).run Tryz.prog w = .ok (.slice none 0 0) w := by kernel_rfl
set_option maxRecDepth 100000 in
theorem infoTh64 : (Tryz.prog.info? 79).map (fun i => (i.zero, i.size, i.bytes)) = some (some Th.zero.v, 6, 64) := by kernel_rfl
/-- What lies in a map is one. -/
theorem MapL.one {m : Nat} {L L' : List (Int × Sl)} {W : World} (h : MapL Tryz.prog 49 slE W m L) (h' : MapL Tryz.prog 49 slE W m L') (k : Int) : (at_ L k).v = (at_ L' k).v := by
 by_cases hk : Num k
 ·have e1 := h.look u64Key undKm (zeroThs W) false k hk
  have e2 := h'.look u64Key undKm (zeroThs W) false k hk
  rw [e1] at e2
  have e3 : Go.MapFun.got false (.slice none 0 0) slE (lk L k) = Go.MapFun.got false (.slice none 0 0) slE (lk L' k) := by injection e2
  unfold at_
  revert e3
  cases lk L k <;> cases lk L' k <;> intro e3 <;> exact e3
 ·have n1 : lk L k = none := lk_none.2 fun x hx e => hk (e ▸ h.2.1 x hx)
  have n2 : lk L' k = none := lk_none.2 fun x hx e => hk (e ▸ h'.2.1 x hx)
  unfold at_
  rw [n1, n2]
/-- A block that is no row of the map's. -/
def Fr (m Bt : Nat) (W : World) : Prop := ∀ L, MapL Tryz.prog 49 slE W m L → ∀ k, (at_ L k).v.ownBlock ≠ some Bt
theorem Fr.kept {m Bt : Nat} {W W' : World} (h : Fr m Bt W) (e : W'.heap[m]? = W.heap[m]?) : Fr m Bt W' := fun L hL k => h L (hL.kept e.symm) k
theorem Fr.new {m Bt n1 : Nat} {S : Nat → Prop} {bK : Nat} {w0 : World} {pre : List Th} {W W' : World} (h : Gd bK m n1 S w0 pre W) (e : W'.heap[m]? = W.heap[m]?) (hB : W.heap.size ≤ Bt) : Fr m Bt W' := fun L' hL' k hq => by
 obtain ⟨⟨L, h1⟩, _⟩ := h
 rw [MapL.one (hL'.kept e.symm) h1.map k] at hq
 have := ((h1.row k).lt Bt hq).2
 omega
/-- append to what lies for a number. -/
theorem Kd.grows {m : Nat} {S : Nat → Prop} {w0 : World} {pre : Ths} {L : List (Int × Sl)} {W W1 : World} {x : Th} (h : Kd Tryz.prog 49 79 m w0.heap.size S pre L W) (k1 : Below W.heap.size W W1) (hb : w0.heap.size ≤ W1.heap.size) (hl : pre.length ≤ 1000) (q : Nat) (hq : W1.heap[q]? = some (.cells x.cs.toArray 79 (0, 0))) :
  ∃ g' cap' W2, (Builtin.append_ #[80, 80] 80 #[(at_ L x.par).v, .slice (some ⟨q, 0, none⟩) 1 1]).run Tryz.prog W1 = .ok (.slice (some ⟨g', 0, none⟩) ((kidsOf pre x.par).length + 1) cap') W2 ∧
   W2.ownsRow w0.heap.size 79 6 (.slice (some ⟨g', 0, none⟩) ((kidsOf pre x.par).length + 1) cap') ((kidsOf pre x.par).length + 1) ((kidsOf pre x.par).flatMap Th.cs ++ x.cs) ∧ W1.grownBy W2 (at_ L x.par).v.ownBlock ∧ ((at_ L x.par).v.ownBlock = some g' ∨ g' = W1.heap.size) := by
 obtain ⟨i, hi0, hi1, hi2, hi3⟩ := info_of infoTh64
 have hkl : (kidsOf pre x.par).length ≤ pre.length := List.length_filter_le _ _
 have hown : W1.ownsRow w0.heap.size 79 6 (at_ L x.par).v (kidsOf pre x.par).length ((kidsOf pre x.par).flatMap Th.cs) := own_kept (h.row x.par) fun g hg => k1.block g ((h.row x.par).lt g hg).2
 have hc : ∀ j u, x.cs[j]? = some u → W1.cell? ((⟨q, 0, none⟩ : Addr).add j) = some u := fun j u hu => by
  rw [Addr.add_mid, Nat.zero_add, cell_of_row _ _ _ _ _ _ hq, List.getElem?_toArray]
  exact hu
 have h1c : ∀ u ∈ x.cs, u.oneCell' = true := by
  intro u hu
  simp [Th.cs] at hu
  rcases hu with rfl | rfl | rfl | rfl | rfl | rfl <;> rfl
 obtain ⟨v', w', hrun, r1, r2, _⟩ := run_append_own (P := Tryz.prog) W1 w0.heap.size 80 80 79 i Th.zero.v 6 64 undTs hi0 hi1 hi2 hi3 rfl (by decide) _ _ _ hown ⟨q, 0, none⟩ 1 1 x.cs rfl hc h1c (by unfold maxLen; omega) (by omega) hb
 have r3 := AppendSz.where_append (ty := 80) undTs hi0 hi1 hi2 hi3 hown ⟨q, 0, none⟩ 1 1 x.cs rfl hc h1c (by omega) (by unfold maxLen; omega) v' w' hrun
 obtain ⟨g', cap', rfl⟩ := ownsRow_succ r1
 refine ⟨g', cap', w', hrun, r1, r2, ?_⟩
 rcases r3 with e | e
 ·exact .inl e.symm
 ·exact .inr (by injection e)
end Go.Proofs.YtnbhchdaobimmaaGreatDoor
/- Paths ordered name by name, as the document has it: by the parts between /; no program text is named here. (pts is the parts of NameParts, said once more: that text stands behind contracts.) -/
namespace Go.Img
open Go.RowKit
def pts : List UInt8 → List (List UInt8)
 | [] => [[]]
 | c :: l => if c = 47 then [] :: pts l else match pts l with
  | p :: ps => (c :: p) :: ps
  | [] => [[c]]
theorem pts_some : ∀ l, ∃ p ps, pts l = p :: ps
 | [] => ⟨_, _, rfl⟩
 | c :: l => by
  obtain ⟨p, ps, h⟩ := pts_some l
  unfold pts
  split
  ·exact ⟨_, _, rfl⟩
  ·rw [h]; exact ⟨_, _, rfl⟩
/-- A text ahead of another one, byte by byte. -/
def ltB : List UInt8 → List UInt8 → Bool
 | [], [] => false
 | [], _ :: _ => true
 | _ :: _, [] => false
 | a :: x, b :: y => if a = b then ltB x y else decide (a.toNat < b.toNat)
/-- A path ahead of another one, name by name. -/
def befP : List (List UInt8) → List (List UInt8) → Bool
 | [], [] => false
 | [], _ :: _ => true
 | _ :: _, [] => false
 | p :: ps, q :: qs => if p = q then befP ps qs else ltB p q
end Go.Img
/- Each path of an image may be a path: its names are legal, and it is not too long; no program text is named here. -/
namespace Go.Img
open Go.RowKit Go.Names
open Go.Mov hiding fold
theorem pts_none : ∀ {l : List UInt8}, 47 ∉ l → pts l = [l]
 | [], _ => rfl
 | c :: l, h => by
  have h1 : c ≠ 47 := fun e => h (by simp [e])
  have h2 := pts_none (l := l) (fun e => h (by simp [e]))
  unfold pts
  rw [if_neg h1, h2]
theorem pts_slash : ∀ (f s : List UInt8), pts (f ++ 47 :: s) = pts f ++ pts s
 | [], s => by
  show (if (47 : UInt8) = 47 then [] :: pts s else _) = _
  rw [if_pos rfl]; rfl
 | c :: f, s => by
  have ih := pts_slash f s
  obtain ⟨p, ps, hp⟩ := pts_some f
  rw [hp, List.cons_append] at ih
  show (if c = 47 then [] :: pts (f ++ 47 :: s) else match pts (f ++ 47 :: s) with | p :: ps => (c :: p) :: ps | [] => [[c]]) = (if c = 47 then [] :: pts f else match pts f with | p :: ps => (c :: p) :: ps | [] => [[c]]) ++ pts s
  rw [ih, hp]
  by_cases e : c = 47
  ·rw [if_pos e, if_pos e]; rfl
  ·rw [if_neg e, if_neg e]; rfl
/-- May a text be a path? -/
def okPath (l : List UInt8) : Bool := decide (l.length ≤ 238) && (pts l).all legal
theorem slash_free {s : List UInt8} (h : legal s = true) : 47 ∉ s := fun hm => slash_no h (by
 unfold Names.fold
 exact List.mem_map.2 ⟨47, hm, by decide⟩)
theorem named_path {T : Ths} (hl : T.length ≤ 900) {k : Int} {f : List UInt8} (hf : f = [] ∨ (pts f).all legal = true) {y : Fi} (h : y ∈ named f (kidsOf T k)) : okPath y.path = true := by
 have hk : (kidsOf T k).length ≤ 900 := Nat.le_trans (List.length_filter_le _ _) hl
 have hlong := (named_long hk h).2
 obtain ⟨p, hp, rfl⟩ := named_at h
 have hleg := asg_legal ((kidsOf T k).map nameOf) (by rw [List.length_map]; exact hk) p.2 (List.of_mem_zip hp).2
 unfold okPath
 rw [decide_eq_true hlong]
 have hpn := pts_none (slash_free hleg)
 show (true && (pts (head f ++ p.2)).all legal) = true
 unfold head
 split
 ·rw [List.nil_append, hpn]; simp [hleg]
 ·rename_i hne
  rcases hf with hf | hf
  ·exact absurd hf hne
  ·rw [List.append_assoc]
   show (true && (pts (f ++ 47 :: p.2)).all legal) = true
   rw [pts_slash, hpn, List.all_append, hf]
   simp [hleg]
theorem met_path {T : Ths} (hl : T.length ≤ 900) {k : Int} {f : List UInt8} {y : Fi} (h : Met T k f y) : (f = [] ∨ (pts f).all legal = true) → okPath y.path = true := by
 induction h with
 | @here k f y hz => exact fun hf => named_path hl hf hz
 | @deep k f z y hz _ ih =>
  intro hf
  have := named_path hl hf hz
  unfold okPath at this
  simp only [Bool.and_eq_true] at this
  exact ih (.inr this.2)
/-- In the image each path may be one, and no two are the same, folded. -/
theorem img_paths {T : Ths} (h : Fine T) (hd : Dirs T) (hl : T.length ≤ 900) : (∀ y ∈ img T, okPath y.path = true) ∧ ∀ x ∈ img T, ∀ y ∈ img T, Names.fold x.path = Names.fold y.path → x = y := by
 have hm : ∀ y, y ∈ img T ↔ Met T 0 [] y := doc_met h hd hl 240 0 [] (by simp) (by simp)
 exact ⟨fun y hy => met_path hl ((hm y).1 hy) (.inl rfl), fun x hx y hy e => met_once hl ((hm x).1 hx) ((hm y).1 hy) e⟩
theorem img_nodup {T : Ths} (h : Fine T) (hl : T.length ≤ 900) : (img T).Nodup := (docOf_perm T 240 0 []).nodup_iff.2 (docL_nodup h hl 240 0 [])
end Go.Img
