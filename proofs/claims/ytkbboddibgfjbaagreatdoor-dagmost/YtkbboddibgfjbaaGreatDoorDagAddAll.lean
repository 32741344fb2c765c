/- Contract: Add. -/
import Derived.Test.YtkbboddibgfjbaaGreatDoorDagAdd
import Derived.Test.YtkbboddibgfjbaaGreatDoorDagNumber
namespace Go.Proofs.YtkbboddibgfjbaaGreatDoor
open Go.RowKit Go.Sort Go.Wire Go.Stamp Go.Opn Go.Nod Go.MapFun Go.Dag
attribute [local go_sem] Oper.semAt_some
/-- What the listed variable of package errors holds. -/
def Ety (w : World) : Prop := w.cell? ⟨0, 0, none⟩ = some (.iface 205 (.agg #[.pointer (some ⟨2, 79, none⟩)]))
theorem Ety.below {w w' : World} {B : Nat} (h : Ety w) (k : Below B w w') (hB : 0 < B) : Ety w' := (k.cell (p := ⟨0, 0, none⟩) hB).trans h
theorem Ety.pos {w : World} (h : Ety w) : 0 < w.heap.size := block_lt_of_cell h
/-- Behind a call of Add. -/
structure AddQ (base : Nat) (F : Fp) (ks : List ByteArray) (d2 : Dg) (L : List ByteArray) (v : Value) (w w' : World) (F2 : Fp) (sl2 : ByteArray → Sl) : Prop where
  own : w'.ownsRow w.heap.size 9 1 v L.length (L.map Value.string)
  b : F2.b = F.b
  d : DagAt Tryz.prog 75 base F2 ks sl2 d2 w'
  tn : Tn F w w'
  nw : F.to F2 w
set_option maxRecDepth 100000 in
theorem add12_any {base : Nat} {F : Fp} {ks : List ByteArray} {sl : ByteArray → Sl} {d : Dg} (s : ByteArray) (w : World) (hD : DagAt Tryz.prog 75 base F ks sl d w) (hks : ∀ k ∈ ks, k.size ≤ 1000000) (hs : s.size ≤ 281474976710656) (hst : Steps w) (het : Ety w) (hgb : 0 < base) (hK : d.taken.length + d.waits.length ≤ 90000) :
    Calls Tryz.prog 12 #[.pointer (some ⟨F.b, 0, none⟩), .string s] w fun e w' => ∃ v, e = .returned (.tuple #[v, .int .i64 (d.add ks s).2.2]) ∧ Hid (∃ F2 sl2, AddQ base F ks (d.add ks s).1 (d.add ks s).2.1 v w w' F2 sl2) := by
  have HA := hide (addIn_any s w hD hks hs hst hK)
  have HX := hide (And.intro hD het)
  clear hD het hst
  go_enter Tryz.func12, Tryz.ntmps12
  go_wp2_with (first
    | (go_at_call 30; refine HA.out.mono ?_; rintro e w1 ⟨v, ev, rfl, hp⟩; have HP := hide hp; clear hp)
    | (go_at_call 31
       obtain ⟨F2, sl2, p1, p2, p3, p4, p5, p6, p7⟩ := HP.out
       refine (numberDag_any w1 p2 (HX.out.2.below (p6.below HX.out.1.r.hasBase HX.out.1.r.size) hgb) p3).mono ?_
       rintro e w2 ⟨rfl, k2⟩
       have HQ : Hid (∃ F2 sl2, AddQ base F ks (d.add ks s).1 (d.add ks s).2.1 v w w2 F2 sl2) := ⟨F2, sl2, own_low p1 fun g hg => k2.block g (p1.lt g hg).2, p4, p5.below k2, p6.trans (.of_below k2 (F := F2)) p7, p7⟩
       clear p1 p2 p3 p4 p5 p6 p7 k2 HP))
  go_ret2
  exact ⟨_, rfl, HQ⟩
end Go.Proofs.YtkbboddibgfjbaaGreatDoor
