/- Several texts in one: NameRef, NameRefAsg, NameGiven, ImageNamed. -/
import Derived.Test.YtnbhchdaobimmaaGreatDoorRunAO
import Derived.Test.YtnbhchdaobimmaaGreatDoorRegionAll
import Derived.Test.YtnbhchdaobimmaaGreatDoorRunAK
import Derived.Test.YtnbhchdaobimmaaGreatDoorQuietAll
import Derived.Test.YtnbhchdaobimmaaGreatDoorMoveTwoAll
import Derived.Deep.CutRange
import Derived.Deep.CutBlock
/- Contracts of the document's: was a name assigned, small; a number's digits. -/
namespace Go.Names
/-- The texts of a row, as lists of bytes. -/
def txts (xs : List ByteArray) : List Bs := xs.map fun x => x.data.toList
def usedB (xs : List ByteArray) (s : ByteArray) : Bool := decide (fold s.data.toList ∈ (txts xs).map fold)
end Go.Names
namespace Go.Proofs.YtnbhchdaobimmaaGreatDoor
open Go.RowKit Go.Names
end Go.Proofs.YtnbhchdaobimmaaGreatDoor
/- Contract: the document's Assign. -/
namespace Go.Names
end Go.Names
namespace Go.Proofs.YtnbhchdaobimmaaGreatDoor
open Go.RowKit Go.Names
/-- A row of texts of one's own. -/
structure Ar (W : World) (vo : Value) (outs : List Bs) (w : World) : Prop where
 own : w.ownsRow W.heap.size 9 1 vo outs.length (strV outs)
 below : Below W.heap.size W w
end Go.Proofs.YtnbhchdaobimmaaGreatDoor
/- A row of things with names of one's own: how it grows, how it is read. -/
namespace Go.Names
open Go.RowKit
def gvCells (gs : List (Int × ByteArray)) : List Value := gs.flatMap fun g => [.int .u64 g.1, .string g.2]
theorem gvCells_append (a b : List (Int × ByteArray)) : gvCells (a ++ b) = gvCells a ++ gvCells b := List.flatMap_append
theorem gvCells_at : ∀ (gs : List (Int × ByteArray)) (j : Nat) (g : Int × ByteArray), gs[j]? = some g → (gvCells gs)[j * 2]? = some (.int .u64 g.1) ∧ (gvCells gs)[j * 2 + 1]? = some (.string g.2)
 | [], j, g, h => by cases h
 | x :: gs, 0, g, h => by cases h; exact ⟨rfl, rfl⟩
 | x :: gs, j + 1, g, h => by
  have := gvCells_at gs j g h
  rw [show (j + 1) * 2 = j * 2 + 1 + 1 by omega]
  exact this
theorem Gvs.of_own {base e : Nat} {w : World} {v : Value} {n : Nat} {gs : List (Int × ByteArray)} (hn : n = gs.length) (h : w.ownsRow base e 2 v n (gvCells gs)) : Gvs w v gs := by
 subst hn
 obtain ⟨h0, h1⟩ := h
 rcases h1 with ⟨h1, h2⟩ | ⟨g, cap, cur, h1, h2, h3, h4, h5, h6, h7⟩
 ·exact .inl ⟨⟨none, 0, by rw [h1]⟩, List.length_eq_zero_iff.1 h2⟩
 ·have hlt : g < w.heap.size := by
   rcases Nat.lt_or_ge g w.heap.size with h | h
   ·exact h
   ·rw [Array.getElem?_eq_none h] at h3; cases h3
  refine .inr ⟨g, 0, cap, h1, hlt, h4, fun j x hj => ?_⟩
  have hjl : j < gs.length := (List.getElem?_eq_some_iff.1 hj).1
  obtain ⟨c0, c1⟩ := gvCells_at gs j x hj
  rw [← h7] at c0 c1
  rw [List.getElem?_take_of_lt (by omega), Array.getElem?_toList] at c0 c1
  rw [Nat.zero_add, cell_of_row _ _ _ _ _ _ h3, cell_of_row _ _ _ _ _ _ h3]
  exact ⟨c0, c1⟩
end Go.Names
namespace Go.Proofs.YtnbhchdaobimmaaGreatDoor
open Go.RowKit Go.Names
set_option maxRecDepth 100000 in
theorem gvUnder : Tryz.prog.underlying 131 = some (.slice 133) := by kernel_rfl
set_option maxRecDepth 100000 in
theorem gvInfo : (Tryz.prog.info? 133).map (fun i => (i.zero, i.size, i.bytes)) = some (some (.agg #[.int .u64 0, .string ⟨#[]⟩]), 2, 24) := by kernel_rfl
/-- Things with names in a row of one's own. -/
structure Gr (W : World) (vo : Value) (gs : List (Int × ByteArray)) (w : World) : Prop where
 own : w.ownsRow W.heap.size 133 2 vo gs.length (gvCells gs)
 below : Below W.heap.size W w
set_option maxRecDepth 100000 in
theorem own2_slice {W : World} {base e : Nat} {v : Value} {k : Nat} {xs : List Value} (h : W.ownsRow base e 2 v k xs) : ∃ a c, v = .slice a k c := by
 rcases h.2 with ⟨rfl, h0⟩ | ⟨j, cap, cur, rfl, _⟩
 ·exact ⟨none, 0, by rw [h0]⟩
 ·exact ⟨_, _, rfl⟩
set_option maxRecDepth 100000 in
theorem own2_at {W : World} {base e : Nat} {v : Value} {k j : Nat} {xs : List Value} (h : W.ownsRow base e 2 v k xs) (ej : v.ownBlock = some j) : base ≤ j ∧ ∃ cur z, W.heap[j]? = some (.cells cur e z) := by
 rcases h.2 with ⟨rfl, _⟩ | ⟨b, cap, cur, rfl, h2, h3, _⟩
 ·cases ej
 ·cases ej; exact ⟨h2, _, _, h3⟩
set_option maxRecDepth 100000 in
theorem own2_stays {W W' : World} {base : Nat} {e : TypeId} {v : Value} {k : Nat} {xs : List Value} (h : W.ownsRow base e 2 v k xs) (hb : ∀ j, v.ownBlock = some j → W'.heap[j]? = W.heap[j]?) : W'.ownsRow base e 2 v k xs := by
 obtain ⟨h0, h1⟩ := h
 refine ⟨h0, ?_⟩
 rcases h1 with h1 | ⟨j, cap, cur, rfl, h2, h3, h4⟩
 ·exact .inl h1
 ·exact .inr ⟨j, cap, cur, rfl, h2, (hb j rfl).trans h3, h4⟩
set_option maxRecDepth 100000 in
theorem Gr.step {W w w' : World} {vo : Value} {gs : List (Int × ByteArray)} (h : Gr W vo gs w) (k : Below w.heap.size w w') : Gr W vo gs w' := by
 refine ⟨own2_stays h.own (fun j hj => ?_), h.below.trans (k.mono h.below.size)⟩
 obtain ⟨_, cur, z, hc⟩ := own2_at h.own hj
 exact k.block j (lt_of_block hc)
set_option maxRecDepth 100000 in
theorem Gr.gvs {W w : World} {vo : Value} {gs : List (Int × ByteArray)} (h : Gr W vo gs w) : Gvs w vo gs := Gvs.of_own rfl h.own
set_option maxRecDepth 100000 in
theorem cells2_new (w : World) (x y : Value) (t : TypeId) : ∀ j u, [x, y][j]? = some u → (w.alloc (.cells #[x, y] t)).cell? ((⟨w.heap.size, 0, none⟩ : Addr).add j) = some u := by
 intro j u hj
 match j, hj with
 | 0, hj => simp at hj; subst hj; simp [Addr.add]
 | 1, hj => simp at hj; subst hj; simp [Addr.add]
set_option maxRecDepth 100000 in
theorem Gr.append {W w : World} {a0 : Option Addr} {n0 c0 : Nat} {gs : List (Int × ByteArray)} (h : Gr W (.slice a0 n0 c0) gs w) (g : Int × ByteArray) (hlen : gs.length ≤ 1000)
  {ops : Array Oper} {rest : List Oper} {o : Oper} {a : Act} {Q : Exit → Act → World → Prop} (hg : o.guard = none) (s y : Operand)
  (ho : o.op = .call { callee := .builtin .append, args := #[s, y], argTypes := #[131, 131] }) (hs : a.eval s = .slice a0 n0 c0) (hy : a.eval y = .slice (some ⟨w.heap.size, 0, none⟩) 1 1) {tt : TypeId}
  (k : ∀ a1 c1 w1, Gr W (.slice a1 (gs.length + 1) c1) (gs ++ [g]) w1 → wpList Tryz.prog ops Q rest (a.put o.dst (.slice a1 (gs.length + 1) c1)) w1) : wpList Tryz.prog ops Q (o :: rest) a (w.alloc (.cells #[.int .u64 g.1, .string g.2] tt)) := by
 obtain ⟨i, hi, hz0, hz1, hz2⟩ := info_parts gvInfo
 have hsz := h.below.size
 refine wpList_append_own _ hg s y 131 ho W.heap.size 133 i (.agg #[.int .u64 0, .string ⟨#[]⟩]) 2 24 gvUnder hi hz0 hz1 hz2 rfl (by decide) _ _ _ hs (h.own.alloc _) ⟨w.heap.size, 0, none⟩ 1 1 [.int .u64 g.1, .string g.2] hy rfl (cells2_new _ _ _ _) (fun u hu => by simp at hu; rcases hu with rfl | rfl <;> rfl) (by unfold maxLen; omega) (by omega) (by simp; omega) ?_
 intro v' w1 hown hgrow _
 obtain ⟨a1, c1, rfl⟩ := own2_slice hown
 refine k a1 c1 w1 ⟨?_, (h.below.alloc hsz _).grown hgrow (by simp; omega) fun j e => (own2_at h.own e).1⟩
 rw [List.length_append, gvCells_append]
 exact hown
end Go.Proofs.YtnbhchdaobimmaaGreatDoor
/- Contract: the things of a folder by their paths. -/
namespace Go.Rws
open Go.RowKit
variable {α : Type} {cs : α → List Value} {z : Nat} {T : TypeId} {W W2 w w' : World} {vo : Value} {xs : List α} {P : Program}
/-- A row that was made behind a world is one behind an earlier one. -/
theorem OwnR.wider (h : OwnR cs z T W2 vo xs w) (k : Below W.heap.size W W2) : OwnR cs z T W vo xs w := by
 obtain ⟨⟨h0, h1⟩, hb⟩ := h
 refine ⟨⟨h0, ?_⟩, k.trans (hb.mono k.size)⟩
 rcases h1 with h1 | ⟨j, cap, cur, e, h2, h3⟩
 ·exact .inl h1
 ·exact .inr ⟨j, cap, cur, e, Nat.le_trans k.size h2, h3⟩
end Go.Rws
namespace Go.Img
open Go.RowKit Go.Mov
def givens (xs : Ths) : List (Int × ByteArray) := xs.map fun x => (x.id, x.name)
theorem givens_len (xs : Ths) : (givens xs).length = xs.length := List.length_map _
theorem givens_take (xs : Ths) {i : Nat} {x : Th} (h : xs[i]? = some x) : givens (xs.take (i + 1)) = givens (xs.take i) ++ [(x.id, x.name)] := by
 unfold givens
 rw [List.take_add_one, h]
 simp
theorem namesOf_givens (xs : Ths) : Names.namesOf (givens xs) = xs.map nameOf := by
 unfold Names.namesOf givens
 rw [List.map_map]
 rfl
abbrev sCs (s : List UInt8) : List Value := [.string ⟨s.toArray⟩]
theorem strV_flat (l : List (List UInt8)) : l.flatMap sCs = Names.strV l := by
 induction l with
 | nil => rfl
 | cons s r ih => rw [List.flatMap_cons, ih]; rfl
/-- The first things of a folder by their paths. -/
def namedTo (f : List UInt8) (xs : Ths) (ns : List (List UInt8)) (i : Nat) : List Fi := ((xs.zip ns).take i).filterMap fun p => fileAt p.1 (join f p.2)
theorem namedTo_next {f : List UInt8} {xs : Ths} {ns : List (List UInt8)} {i : Nat} {x : Th} {s : List UInt8} (hx : xs[i]? = some x) (hs : ns[i]? = some s) : namedTo f xs ns (i + 1) = namedTo f xs ns i ++ (fileAt x (join f s)).toList := by
 unfold namedTo
 have hz : (xs.zip ns)[i]? = some (x, s) := List.getElem?_zip_eq_some.2 ⟨hx, hs⟩
 rw [List.take_add_one, hz, Option.toList_some, List.filterMap_append]
 congr 1
theorem namedTo_all (f : List UInt8) (xs : Ths) {i : Nat} (h : xs.length ≤ i) : namedTo f xs (Names.asg (xs.map nameOf)) i = named f xs := by
 unfold namedTo named
 rw [List.take_of_length_le]
 rw [List.length_zip]
 omega
theorem namedTo_len (f : List UInt8) (xs : Ths) (ns : List (List UInt8)) (i : Nat) : (namedTo f xs ns i).length ≤ i := by
 unfold namedTo
 exact Nat.le_trans (List.length_filterMap_le _ _) (by rw [List.length_take]; omega)
end Go.Img
namespace Go.Proofs.YtnbhchdaobimmaaGreatDoor
open Go.RowKit Go.Img Go.Shelf Go.Rws Go.Names
open Go.Mov hiding fold
attribute [local go_sem] Oper.semAt_some
set_option maxRecDepth 100000 in
theorem infoFi : (Tryz.prog.info? 51).map (fun i => (i.zero, i.size, i.bytes)) = some (some (.agg Fi.zero.cs.toArray), 5, 56) := by kernel_rfl
set_option maxRecDepth 100000 in
theorem undFs : Tryz.prog.underlying 27 = some (.slice 51) := by kernel_rfl
/-- Grown by one whose row lies in a block that is known by another name. -/
theorem Gr.appendAt {W w : World} {a0 : Option Addr} {n0 c0 : Nat} {gs : List (Int × ByteArray)} (h : Gr W (.slice a0 n0 c0) gs w) (g : Int × ByteArray) (hlen : gs.length ≤ 1000) (q : Nat) (hq : q = w.heap.size)
  {ops : Array Oper} {rest : List Oper} {o : Oper} {a : Act} {Q : Exit → Act → World → Prop} (hg : o.guard = none) (s y : Operand)
  (ho : o.op = .call { callee := .builtin .append, args := #[s, y], argTypes := #[131, 131] }) (hs : a.eval s = .slice a0 n0 c0) (hy : a.eval y = .slice (some ⟨q, 0, none⟩) 1 1) {tt : TypeId}
  (k : ∀ a1 c1 w1, Gr W (.slice a1 (gs.length + 1) c1) (gs ++ [g]) w1 → wpList Tryz.prog ops Q rest (a.put o.dst (.slice a1 (gs.length + 1) c1)) w1) : wpList Tryz.prog ops Q (o :: rest) a (w.alloc (.cells #[.int .u64 g.1, .string g.2] tt)) := by
 subst hq
 exact h.append g hlen hg s y ho hs hy k
set_option maxHeartbeats 4000000 in
set_option maxRecDepth 100000 in
theorem named_any (f : List UInt8) (xs : Ths) (v : Value) (w : World) (hv : Vt w) (hR : RowsAt Th.cs 6 w v xs) (hl : xs.length ≤ 130) (hn : ∀ x ∈ xs, x.name.size ≤ 1000000) (hf : f.length ≤ 1000) :
  Calls Tryz.prog 25 #[.string ⟨f.toArray⟩, v] w fun e w' => ∃ v', e = .returned v' ∧ OwnR Fi.cs 5 51 w v' (Img.named f xs) w' := by
 obtain ⟨va, vc, rfl⟩ := hR.form
 have HR := hide hR
 have HV := hide hv
 have HS := hide hn
 have hvc : Hid (∀ g, va = some g → xs.length ≤ vc) := fun g hg => by
  rcases hR with ⟨⟨a, c, h1⟩, h2⟩ | ⟨g', off, cap, h1, h2, h3, h4⟩
  ·rw [h2]; exact Nat.zero_le _
  ·simp only [Value.slice.injEq] at h1; rw [h1.2.2]; exact h3
 obtain ⟨F, hF⟩ : ∃ F : ByteArray, F = ⟨f.toArray⟩ := ⟨_, rfl⟩
 rw [← hF]
 have HF := hide hF
 clear hR hv hn hF
 obtain ⟨N, hN⟩ : ∃ N, N = xs.length := ⟨_, rfl⟩
 have HN := hide hN
 rw [← hN] at hl ⊢
 clear hN
 have G0 : Hid (Gr w (.slice none 0 0) [] w) := ⟨World.ownsRow_nil _ _ _ _, Below.refl _ _⟩
 go_enter Tryz.func25, Tryz.ntmps25
 go_wp2_with fail
 go_loopw [5, 15] (fun v5 v15 wr => ∃ (i : Nat) (a : Option Addr) (c : Nat), v15 = .int .i64 i ∧ i ≤ N ∧ v5 = .slice a i c ∧ Hid (Gr w (.slice a i c) (givens (xs.take i)) wr)) (fun _ v15 _ => N - (intOf v15).toNat)
 case atStart => exact ⟨0, none, 0, rfl, Nat.zero_le _, rfl, G0.out⟩
 case round =>
  obtain ⟨i, a, c, rfl, hi, rfl, HI⟩ := hrel
  clear G0
  have h0 : (0 : Int) ≤ i := by omega
  by_cases hil : i < N
  ·obtain ⟨x, hx⟩ : ∃ x, xs[i]? = some x := ⟨_, List.getElem?_eq_getElem (by rw [← HN.out]; exact hil)⟩
   obtain ⟨g, off, hla, _, hcap, hgl, hrg⟩ := HR.out.at (fun e => by rw [e] at hx; cases hx)
   subst hla
   have hiI : (i : Int) < N := by omega
   have hcI : (N : Int) ≤ vc := by rw [← HN.out] at hcap; omega
   have HRW := hide (rangeAt_below (hrg i x hx) hgl HI.out.below)
   have HG := hide (givens_take xs hx)
   have hgl : Hid ((givens (xs.take i)).length = i) := by show _ = _; rw [givens_len, List.length_take]; have := HN.out; omega
   clear hx hrg hcap
   go_wp2_with (first
    | (refine wpList_load_mid rfl 79 _ rfl g (off + i * 6) rfl x.cs _ HRW.out Tryz.underlying79 rfl infoTh ?_; simp only [Th.cs])
    | (at_builtin; refine (HI.out.step ((Below.refl _ wr).alloc (Nat.le_refl _) _)).appendAt (x.id, x.name) (by rw [hgl.out]; omega) (wr.heap.size + 1) (World.size_alloc _ _).symm rfl _ _ rfl rfl rfl ?_; rw [hgl.out]; intro a1 c1 w3 hO; have HO3 := hide hO; clear hO))
   go_roundw
   case rel => exact ⟨i + 1, _, _, by simp, by omega, rfl, by rw [HG.out]; exact HO3.out⟩
   case measure => simp [intOf]; omega
  ·obtain rfl : i = N := by omega
   have hnI : ¬ (i : Int) < i := by omega
   have e1 : xs.take i = xs := by rw [HN.out, List.take_length]
   rw [e1] at HI
   clear e1
   have HAs := hide (assignAll_any (.slice a i c) (givens xs) wr (HV.out.below HV.out.size HI.out.below) HI.out.gvs (by rw [givens_len, ← HN.out]; exact hl) (fun g hg => by
    obtain ⟨x, hx, rfl⟩ := List.mem_map.1 hg
    exact HS.out x hx))
   rw [namesOf_givens, givens_len, ← HN.out] at HAs
   obtain ⟨ns, hns⟩ : ∃ ns, ns = asg (xs.map nameOf) := ⟨_, rfl⟩
   have HNS := hide hns
   have hnsl : Hid (ns.length = i) := by show _ = _; rw [hns, asg_length, List.length_map, ← HN.out]
   rw [← hns] at HAs
   clear hns
   go_wp2_with (go_at_call 59; refine HAs.out.mono ?_; rintro e w2 ⟨na, nc, rfl, ho, hb⟩; have HO := hide ho; have HB2 := hide (HI.out.below.trans (hb.mono HI.out.below.size)); clear ho hb HAs)
   have HX0 : Hid (OwnR Fi.cs 5 51 w2 (.slice none 0 0) (namedTo f xs ns 0) w2) := ⟨⟨rfl, .inl ⟨rfl, rfl⟩⟩, Below.refl _ _⟩
   go_loopw [8, 31] (fun v8 v31 wr => ∃ (j n : Nat) (a : Option Addr) (c : Nat), v31 = .int .i64 j ∧ j ≤ i ∧ v8 = .slice a n c ∧ n = (namedTo f xs ns j).length ∧ Hid (OwnR Fi.cs 5 51 w2 (.slice a n c) (namedTo f xs ns j) wr)) (fun _ v31 _ => i - (intOf v31).toNat)
   case atStart => exact ⟨0, 0, none, 0, rfl, Nat.zero_le _, rfl, rfl, HX0.out⟩
   case round =>
    clear HI HX0
    obtain ⟨j, n, la, lc, rfl, hj, rfl, hn, HI⟩ := hrel
    have hnj : n ≤ j := by rw [hn]; exact namedTo_len _ _ _ _
    have HNL := hide hn
    clear hn
    have h0 : (0 : Int) ≤ j := by omega
    by_cases hji : j < i
    ·obtain ⟨x, hx⟩ : ∃ x, xs[j]? = some x := ⟨_, List.getElem?_eq_getElem (by rw [← HN.out]; exact hji)⟩
     obtain ⟨s, hs⟩ : ∃ s, ns[j]? = some s := ⟨_, List.getElem?_eq_getElem (by rw [hnsl.out]; exact hji)⟩
     have hsz : s.length ≤ 32 := by
      have := asg_legal (xs.map nameOf) (by rw [List.length_map, ← HN.out]; omega) s (by rw [← HNS.out]; exact List.mem_of_getElem? hs)
      unfold legal at this
      simp only [Bool.and_eq_true, decide_eq_true_eq] at this
      exact this.1.1.2
     have hwr : Below w.heap.size w wr := HB2.out.trans (HI.out.below.mono HB2.out.size)
     obtain ⟨g, off, hla2, _, hcap, hgl, hrg⟩ := HR.out.at (fun e => by rw [e] at hx; cases hx)
     subst hla2
     have HRW := hide (And.intro (hrg j x hx) hgl)
     have HWR := hide hwr
     have hvI : (i : Int) ≤ vc := by rw [← HN.out] at hcap; omega
     have hRN : RowsAt sCs 1 w2 (.slice na i nc) ns := by
      have h9 := HO.out
      rw [← strV_flat, ← hnsl.out] at h9
      have := RowsAt.of_own (cs := sCs) (z := 1) (fun _ => rfl) h9
      rwa [hnsl.out] at this
     obtain ⟨g2, off2, hna, hq2, hncap, hg2l, hrg2⟩ := (hRN.below HI.out.below).at (fun e => by rw [e] at hs; cases hs)
     subst hna
     have hncI : (i : Int) ≤ nc := by rw [hnsl.out] at hncap; omega
     have cs0 := hrg2 j s hs 0 _ rfl
     rw [Nat.mul_one, Nat.add_zero] at cs0
     obtain ⟨S, hS⟩ : ∃ S : ByteArray, S = ⟨s.toArray⟩ := ⟨_, rfl⟩
     rw [← hS] at cs0
     obtain ⟨pl, hpl⟩ : ∃ pl, pl = Img.join f s := ⟨_, rfl⟩
     obtain ⟨PB, hPB⟩ : ∃ PB : ByteArray, PB = ⟨pl.toArray⟩ := ⟨_, rfl⟩
     have HJ : Hid (∀ w', Calls Tryz.prog 60 #[.string F, .string S] w' fun e w2 => e = .returned (.string PB) ∧ w2 = w') := fun w' => by
      rw [HF.out, hS, hPB, hpl]; exact join_any f s w' (by omega) (by omega)
     have HNX := hide (namedTo_next (f := f) hx hs)
     rw [← hpl] at HNX
     have hPs : Hid (PB.size = pl.length) := by show _ = _; rw [hPB]; show pl.toArray.size = _; simp
     have HPB := hide hPB
     have hjI : (j : Int) < i := by omega
     clear hq2 hS hPB hpl hx hs hrg hgl hcap hwr hRN hncap hg2l hrg2 hsz
     go_upto_region 11 with fail
     obtain ⟨d0, d1, d2, d3, d4, d5⟩ := cells6t (rangeAt_below HRW.out.1 HRW.out.2 HWR.out)
     have hgw : g < wr.heap.size := Nat.lt_of_lt_of_le HRW.out.2 HWR.out.size
     have hgn : g ≠ wr.heap.size := by omega
     obtain ⟨W5, hW5⟩ : ∃ W5, W5 = (wr.alloc (.cells #[.int .u64 x.id, .int .u64 x.par, .string x.name, .bool x.dir, .string x.dg, .int .i64 x.size] 79)).drew := ⟨_, rfl⟩
     have HW5 := hide hW5
     clear hW5
     go_cut [11, 12, 31] from 31 to 59 (fun v11 v12 v31 wx => v11 = .pointer (some ⟨wr.heap.size, 0, none⟩) ∧ v12 = .string PB ∧ v31 = .int .i64 j ∧ wx = W5)
     case first =>
      go_region_with (go_at_call 60; refine (HJ.out _).mono ?_; rintro e w4 ⟨rfl, rfl⟩)
      all_goals
       go_wp2_with fail
       go_meet
       exact ⟨rfl, rfl, rfl, by rw [HW5.out]⟩
     case rest =>
      obtain ⟨rfl, rfl, rfl, rfl⟩ := hcut
      have k5 : Below wr.heap.size wr wc := by rw [HW5.out]; exact ((Below.refl _ wr).alloc (Nat.le_refl _) _).drew
      have hbx : wc.heap[wr.heap.size]? = some (.cells x.cs.toArray 79 (0, 0)) := by rw [HW5.out]; exact heap_alloc_new wr _
      have d0 : wc.cell? ⟨wr.heap.size, 0, none⟩ = some (.int .u64 x.id) := (cell_of_row _ _ _ _ _ _ hbx).trans rfl
      have d3 : wc.cell? ⟨wr.heap.size, 3, none⟩ = some (.bool x.dir) := (cell_of_row _ _ _ _ _ _ hbx).trans rfl
      have d4 : wc.cell? ⟨wr.heap.size, 4, none⟩ = some (.string x.dg) := (cell_of_row _ _ _ _ _ _ hbx).trans rfl
      have d5 : wc.cell? ⟨wr.heap.size, 5, none⟩ = some (.int .i64 x.size) := (cell_of_row _ _ _ _ _ _ hbx).trans rfl
      have HI5 := hide (HI.out.step k5)
      have hnle : n ≤ 130 := by omega
      clear hbx k5 HW5 HI
      by_cases hle : PB.size ≤ 238
      ·have hleI : (PB.size : Int) ≤ 238 := by omega
       have HF5 : Hid (fileAt x pl = some ⟨pl, x.dir, x.id, x.dg, x.size⟩) := by
        show _ = _
        unfold fileAt
        rw [if_pos (by rw [← hPs.out]; exact hle)]
       clear hle
       go_upto_region 13 with fail
       obtain rfl := HPB.out
       go_wp2_with (at_builtin; refine OwnR.append HI5.out (⟨pl, x.dir, x.id, x.dg, x.size⟩ : Fi) Fi.cs_length (fi_one _) (by decide) infoFi rfl (by rw [← HNL.out]; omega) (by decide) rfl _ _ 27 undFs rfl rfl rfl ?_; rw [← HNL.out]; intro a1 c1 w3 hO; have HO3 := hide hO; clear hO)
       go_roundw
       case rel => exact ⟨j + 1, n + 1, _, _, by simp, by omega, rfl, by rw [HNX.out, HF5.out, List.length_append, ← HNL.out]; rfl, by rw [HNX.out, HF5.out]; exact HO3.out⟩
       case measure => simp [intOf]; omega
      ·have hleI : ¬ (PB.size : Int) ≤ 238 := by omega
       have HF5 : Hid (fileAt x pl = none) := by
        show _ = _
        unfold fileAt
        rw [if_neg (by rw [← hPs.out]; exact hle)]
       clear hle
       go_wp2_with fail
       go_roundw
       case rel => exact ⟨j + 1, n, _, _, by simp, by omega, rfl, by rw [HNX.out, HF5.out, Option.toList_none, List.append_nil]; exact HNL.out, by rw [HNX.out, HF5.out, Option.toList_none, List.append_nil]; exact HI5.out⟩
       case measure => simp [intOf]; omega
    ·obtain rfl : j = i := by omega
     have hjI : ¬ (j : Int) < j := by omega
     go_wp2_with fail
     go_ret
     refine ⟨_, rfl, ?_⟩
     have := HI.out
     rw [HNL.out]
     have e9 : namedTo f xs ns j = Img.named f xs := by rw [HNS.out]; exact namedTo_all f xs (by rw [← HN.out]; exact Nat.le_refl _)
     rw [HNL.out, e9] at this
     rw [e9]
     exact this.wider HB2.out
end Go.Proofs.YtnbhchdaobimmaaGreatDoor
