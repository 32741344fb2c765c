/- Several texts in one: NodeCheck, NodeSigned, NodeCode, NodeOwn, NodeSame. -/
import Derived.Test.YtkbboddibgfjbaaGreatDoorNodePure
import Derived.Test.YtkbboddibgfjbaaGreatDoorOpOne
import Derived.Test.YtkbboddibgfjbaaGreatDoorPureSha
import Derived.Test.YtkbboddibgfjbaaGreatDoorWireOut
import Derived.Test.YtkbboddibgfjbaaGreatDoorOpRefs
import Derived.Test.YtkbboddibgfjbaaGreatDoorQuietAll
import Derived.Laws.AppendOwn
import Derived.BigQuiet
import Derived.Deep.QuietTactic
/- Contracts: may a node be? The program's. -/
namespace Go.Nod
open Go.RowKit Go.Wire Go.Stamp Go.Opn
/-- A node's cells; its parents' slice is pv. -/
abbrev Nd.cs (n : Nd) (pv : Value) : Array Value := #[.int .i64 n.au, pv, .int .i64 n.op.kind, .int .u64 n.op.tm.c, .int .i64 n.op.tm.k, .int .u64 n.op.thing, .int .u64 n.op.par, .string n.op.name, .bool n.op.dir, .string n.op.dg, .int .i64 n.op.size, .string n.tg]
def Nd.v (n : Nd) (pv : Value) : Value := .agg (n.cs pv)
theorem cells12 {w : World} {g : Nat} {n : Nd} {pv : Value} {T : TypeId} (h : w.heap[g]? = some (.cells (n.cs pv) T (0, 0))) :
    w.cell? ⟨g, 0, none⟩ = some (.int .i64 n.au) ∧ w.cell? ⟨g, 1, none⟩ = some pv ∧ w.cell? ⟨g, 2, none⟩ = some (.int .i64 n.op.kind) ∧ w.cell? ⟨g, 3, none⟩ = some (.int .u64 n.op.tm.c) ∧ w.cell? ⟨g, 4, none⟩ = some (.int .i64 n.op.tm.k) ∧ w.cell? ⟨g, 5, none⟩ = some (.int .u64 n.op.thing) ∧
    w.cell? ⟨g, 6, none⟩ = some (.int .u64 n.op.par) ∧ w.cell? ⟨g, 7, none⟩ = some (.string n.op.name) ∧ w.cell? ⟨g, 8, none⟩ = some (.bool n.op.dir) ∧ w.cell? ⟨g, 9, none⟩ = some (.string n.op.dg) ∧ w.cell? ⟨g, 10, none⟩ = some (.int .i64 n.op.size) ∧ w.cell? ⟨g, 11, none⟩ = some (.string n.tg) :=
  ⟨cell_of_row _ _ _ _ _ _ h, cell_of_row _ _ _ _ _ _ h, cell_of_row _ _ _ _ _ _ h, cell_of_row _ _ _ _ _ _ h, cell_of_row _ _ _ _ _ _ h, cell_of_row _ _ _ _ _ _ h, cell_of_row _ _ _ _ _ _ h, cell_of_row _ _ _ _ _ _ h, cell_of_row _ _ _ _ _ _ h, cell_of_row _ _ _ _ _ _ h, cell_of_row _ _ _ _ _ _ h, cell_of_row _ _ _ _ _ _ h⟩
theorem hide {p : Prop} (h : p) : Hid p := h
theorem getD_at {ps : List ByteArray} {i : Nat} {x : ByteArray} (h : ps[i]? = some x) : ps.getD i ⟨#[]⟩ = x := by rw [List.getD_eq_getElem?_getD, h]; rfl
end Go.Nod
namespace Go.Proofs.YtkbboddibgfjbaaGreatDoor
open Go.RowKit Go.Wire Go.Stamp Go.Opn Go.Nod
attribute [local go_sem] Oper.semAt_some
set_option maxRecDepth 100000 in
set_option maxHeartbeats 1000000 in
theorem rising_any (u : Value) (xs : List ByteArray) (w : World) (hR : StrRow.Reads w u xs) (hn : xs.length ≤ maxLen) (hx : ∀ x ∈ xs, x.size ≤ maxLen) :
    Calls Tryz.prog 100 #[u] w fun e w' => e = .returned (.bool (rises xs)) ∧ w' = w := by
  unfold maxLen at hn hx
  obtain ⟨a, c, rfl⟩ := hR.form
  by_cases h8 : xs.length ≤ 8
  · have h8' : (xs.length : Int) ≤ 8 := by omega
    have HR := hide hR
    have HE : Hid (rises xs = risesTo xs xs.length) := by show _ = _; unfold rises; rw [decide_eq_true h8, Bool.true_and]
    clear hR
    generalize rises xs = RS at HE
    go_enter Tryz.func100, Tryz.ntmps100
    go_wp2_with fail
    go_loop [10] (fun vi => ∃ i : Nat, i ≤ xs.length ∧ vi = .int .i64 i ∧ Hid (risesTo xs i = true)) (fun vi => 1000 - (intOf vi).toNat)
    case atStart => exact ⟨0, Nat.zero_le _, rfl, rfl⟩
    case round =>
      obtain ⟨i, hi, rfl, HH⟩ := hrel
      by_cases hlt : i < xs.length
      · have hlt' : (i : Int) < xs.length := by omega
        obtain ⟨b, off, cap, hv, hcap, hbl⟩ := HR.out.at (by intro h; rw [h] at hlt; simp at hlt)
        simp only [Value.slice.injEq, true_and] at hv
        obtain ⟨rfl, rfl⟩ := hv
        obtain ⟨x, hx1⟩ : ∃ x, xs[i]? = some x := ⟨_, List.getElem?_eq_getElem hlt⟩
        have hcell := HR.out.cell hx1
        have hxs := hx x (List.mem_of_getElem? hx1)
        have HA : Hid (okAt xs i = (x.size == 32 && (i == 0 || less (xs.getD (i - 1) ⟨#[]⟩) x))) := by show _ = _; unfold okAt; rw [getD_at hx1]
        by_cases h32 : x.size = 32
        · have h32' : (x.size : Int) = 32 := by omega
          by_cases h0 : i = 0
          · subst h0
            clear hcell
            have hcell := HR.out.cell hx1
            rw [Nat.add_zero] at hcell
            go_wp2_with fail
            go_round
            case rel => exact ⟨1, by omega, by go_num, by show (risesTo xs 0 && okAt xs 0) = true; rw [HA.out, h32]; rfl⟩
            case measure => simp [intOf]
          · obtain ⟨k, rfl⟩ : ∃ k, i = k + 1 := ⟨i - 1, by omega⟩
            obtain ⟨y, hy1⟩ : ∃ y, xs[k]? = some y := ⟨_, List.getElem?_eq_getElem (by omega)⟩
            have hcy := HR.out.cell hy1
            rw [show k + 1 - 1 = k by omega, getD_at hy1] at HA
            have hi0 : (0 : Int) < ((k + 1 : Nat) : Int) := by omega
            have hk1 : ((k + 1 : Nat) : Int) - 1 = k := by omega
            have hk2 : (k : Int) < xs.length := by omega
            have hk3 : (0 : Int) ≤ k := by omega
            cases hl : less y x with
            | true =>
              have hl' : Go.Op.bytesLess y.toList x.toList = true := hl
              go_wp2_with fail
              go_round
              case rel => exact ⟨k + 1 + 1, by omega, by go_num, by show (risesTo xs (k + 1) && okAt xs (k + 1)) = true; rw [HH.out, HA.out, h32, hl]; rfl⟩
              case measure => simp [intOf]; omega
            | false =>
              have hl' : Go.Op.bytesLess y.toList x.toList = false := hl
              go_wp2_with fail
              go_ret
              exact ⟨by rw [HE.out, risesTo_not (i := k + 1) (by rw [HA.out, hl]; simp) hlt]; rfl, rfl⟩
        · have h32' : ¬ (x.size : Int) = 32 := by omega
          go_wp2_with fail
          go_ret
          exact ⟨by rw [HE.out, risesTo_not (i := i) (by rw [HA.out, beq_eq_false_iff_ne.2 h32]; rfl) hlt]; rfl, rfl⟩
      · have hlt' : ¬ ((i : Int) < xs.length) := by omega
        have hin : i = xs.length := by omega
        subst hin
        go_wp2_with fail
        go_ret
        exact ⟨by rw [HE.out, HH.out]; rfl, rfl⟩
  · have h8' : ¬ (xs.length : Int) ≤ 8 := by omega
    have h8'' : (8 : Int) < xs.length := by omega
    have HE : rises xs = false := by unfold rises; rw [decide_eq_false h8, Bool.false_and]
    rw [HE]
    clear hR
    go_enter Tryz.func100, Tryz.ntmps100
    go_wp2_with fail
    go_ret
    exact ⟨rfl, rfl⟩
set_option maxRecDepth 100000 in
set_option maxHeartbeats 1000000 in
theorem nodeCheck_any (n : Nd) (pv : Value) (w : World) (hR : StrRow.Reads w pv n.ps) (hn : n.ps.length ≤ maxLen) (hx : ∀ x ∈ n.ps, x.size ≤ maxLen) :
    Calls Tryz.prog 65 #[n.v pv] w fun e w' => e = .returned (.int .i64 n.chk) ∧ Below w.heap.size w w' := by
  have HRi : Hid (∀ w', Below w.heap.size w w' → Calls Tryz.prog 100 #[pv] w' fun e w2 => e = .returned (.bool (rises n.ps)) ∧ w2 = w') := fun w' k => rising_any pv n.ps w' (hR.below k (Nat.le_refl _)) hn hx
  have HC : Hid (∀ w, Calls Tryz.prog 101 #[n.op.v] w fun e w' => e = .returned (.int .i64 n.op.chk) ∧ Below w.heap.size w w') := fun w => checkOp_any n.op w
  clear hR hn hx
  have h6 : (rises n.ps && n.tg.size == 32) = false → n.chk = 6 := Nd.chk_no
  have h7 : (rises n.ps && n.tg.size == 32) = true → n.op.chk ≠ 0 → n.chk = n.op.chk := Nd.chk_op
  have h8 : (rises n.ps && n.tg.size == 32) = true → n.op.chk = 0 → n.op.tm.k ≠ n.au → n.chk = 6 := Nd.chk_who
  have h9 : (rises n.ps && n.tg.size == 32) = true → n.op.chk = 0 → n.op.tm.k = n.au → n.chk = 0 := Nd.chk_ok
  generalize n.chk = C at *
  generalize rises n.ps = R at *
  generalize n.op.chk = oc at *
  obtain ⟨au, ps, ⟨kd, ⟨c, k⟩, th, p, nm, d, g, z⟩, tg⟩ := n
  unfold Ob.v at HC
  unfold Nd.v Nd.cs
  dsimp only at *
  cases R with
  | false =>
    rw [h6 rfl]
    clear h6 h7 h8 h9
    go_enter Tryz.func65, Tryz.ntmps65
    go_wp2_with (go_at_call 100; refine (HRi.out _ ((Below.refl _ _).alloc (Nat.le_refl _) _)).mono ?_; rintro e w1 ⟨rfl, hw⟩; subst hw)
    go_ret
    exact ⟨rfl, (Below.refl _ _).alloc (Nat.le_refl _) _⟩
  | true =>
    by_cases ht : tg.size = 32
    · have ht' : (tg.size : Int) = 32 := by omega
      have hb : (true && tg.size == 32) = true := by rw [ht]; rfl
      by_cases ho : oc = 0
      · subst ho
        by_cases hk : k = au
        · rw [h9 hb rfl hk]
          subst hk
          clear h6 h7 h8 h9 hb
          go_enter Tryz.func65, Tryz.ntmps65
          go_wp2_with (first
            | (go_at_call 100; refine (HRi.out _ ((Below.refl _ _).alloc (Nat.le_refl _) _)).mono ?_; rintro e w1 ⟨rfl, hw⟩; subst hw)
            | (go_at_call 101; refine (HC.out _).mono ?_; rintro e w2 ⟨rfl, k2⟩; have b2 := below_alloc_call k2; have r2 : w2.heap[w.heap.size]? = some (.cells ((Nd.mk k ps ⟨kd, ⟨c, k⟩, th, p, nm, d, g, z⟩ tg).cs pv) 60 (0, 0)) := kept_block (heap_alloc_new _ _) k2; obtain ⟨c0, c1, c2, c3, c4, c5, c6, c7, c8, c9, c10, c11⟩ := cells12 r2; clear r2 k2))
          go_ret
          exact ⟨rfl, b2⟩
        · rw [h8 hb rfl hk]
          clear h6 h7 h8 h9 hb
          go_enter Tryz.func65, Tryz.ntmps65
          go_wp2_with (first
            | (go_at_call 100; refine (HRi.out _ ((Below.refl _ _).alloc (Nat.le_refl _) _)).mono ?_; rintro e w1 ⟨rfl, hw⟩; subst hw)
            | (go_at_call 101; refine (HC.out _).mono ?_; rintro e w2 ⟨rfl, k2⟩; have b2 := below_alloc_call k2; have r2 : w2.heap[w.heap.size]? = some (.cells ((Nd.mk au ps ⟨kd, ⟨c, k⟩, th, p, nm, d, g, z⟩ tg).cs pv) 60 (0, 0)) := kept_block (heap_alloc_new _ _) k2; obtain ⟨c0, c1, c2, c3, c4, c5, c6, c7, c8, c9, c10, c11⟩ := cells12 r2; clear r2 k2))
          go_ret
          exact ⟨rfl, b2⟩
      · rw [h7 hb ho]
        have ho' : (oc == 0) = false := beq_eq_false_iff_ne.2 ho
        clear h6 h7 h8 h9 hb
        go_enter Tryz.func65, Tryz.ntmps65
        go_wp2_with (first
          | (go_at_call 100; refine (HRi.out _ ((Below.refl _ _).alloc (Nat.le_refl _) _)).mono ?_; rintro e w1 ⟨rfl, hw⟩; subst hw)
          | (go_at_call 101; refine (HC.out _).mono ?_; rintro e w2 ⟨rfl, k2⟩; have b2 := below_alloc_call k2; have r2 : w2.heap[w.heap.size]? = some (.cells ((Nd.mk au ps ⟨kd, ⟨c, k⟩, th, p, nm, d, g, z⟩ tg).cs pv) 60 (0, 0)) := kept_block (heap_alloc_new _ _) k2; obtain ⟨c0, c1, c2, c3, c4, c5, c6, c7, c8, c9, c10, c11⟩ := cells12 r2; clear r2 k2))
        go_ret
        exact ⟨rfl, b2⟩
    · have ht' : ¬ (tg.size : Int) = 32 := by omega
      rw [h6 (by rw [beq_eq_false_iff_ne.2 ht]; rfl)]
      clear h6 h7 h8 h9
      go_enter Tryz.func65, Tryz.ntmps65
      go_wp2_with (go_at_call 100; refine (HRi.out _ ((Below.refl _ _).alloc (Nat.le_refl _) _)).mono ?_; rintro e w1 ⟨rfl, hw⟩; subst hw)
      go_ret
      exact ⟨rfl, (Below.refl _ _).alloc (Nat.le_refl _) _⟩
end Go.Proofs.YtkbboddibgfjbaaGreatDoor
/- Contracts: a node's bytes without its tag, its digest, its bytes; the program's. -/
namespace Go.Nod
open Go.RowKit Go.Wire Go.Stamp Go.Opn
/-- A writer in block B that has l; a block g of one's own ahead of it. -/
structure Sg (T S B g : Nat) (cs : Array Value) (w0 : World) (l : List UInt8) (W : World) : Prop where
  hw : WAt T B (.pointer (some ⟨B, 0, none⟩)) l W
  box : W.heap[g]? = some (.cells cs S (0, 0))
  below : Below w0.heap.size w0 W
  hB : B ≤ W.heap.size
  hg : g < B
  h0 : w0.heap.size ≤ B
theorem Sg.step {T S B g : Nat} {cs : Array Value} {w0 W W' : World} {l l' : List UInt8} (i : Sg T S B g cs w0 l W) (h : WAt T B (.pointer (some ⟨B, 0, none⟩)) l' W') (k : Below B W W') : Sg T S B g cs w0 l' W' :=
  ⟨h, (k.block g i.hg).trans i.box, i.below.trans (k.mono i.h0), Nat.le_trans i.hB k.size, i.hg, i.h0⟩
theorem Sg.told {T S B g : Nat} {cs : Array Value} {w0 W : World} {l : List UInt8} (i : Sg T S B g cs w0 l W) : Wt T B B l W := by
  rcases i.hw with h | ⟨b', h, hr⟩
  · cases h
  · obtain rfl : B = b' := by simpa using h
    exact hr.told
/-- The digest of bytes for the purpose D. -/
def tagD (l : List UInt8) : ByteArray := ⟨(Sha.sum (Sha.parts 68 [l])).toArray⟩
/-- What is signed may be. -/
structure Nd.Sig (n : Nd) : Prop where
  au : 0 ≤ n.au ∧ n.au < 256
  few : n.ps.length ≤ 8
  all : ∀ x ∈ n.ps, x.size = 32
  ok : n.op.tm.Ok
  good : n.op.Good
theorem Nd.Good.sig {n : Nd} (h : n.Good) : n.Sig := ⟨by have := h.au; omega, h.few, h.all, h.ok, h.good⟩
theorem Nd.Sig.length {n : Nd} (h : n.Sig) : n.body.length ≤ 400 := by
  have h1 := Ob.bytes_length (Ob.good_is h.good)
  have h2 := cat_length n.ps h.all
  have h3 := h.few
  unfold Nd.body
  simp only [List.length_append, num_length]
  omega
theorem Nd.Sig.size {n : Nd} (h : n.Sig) : n.bodyB.size ≤ 400 := by rw [size_list, Nd.bodyB_list]; exact h.length
theorem cat_take {ps : List ByteArray} {i : Nat} {x : ByteArray} (h : ps[i]? = some x) : cat (ps.take (i + 1)) = cat (ps.take i) ++ x.data.toList := by
  rw [List.take_add_one, h, cat_app]
  congr 1
  exact cat_one x
end Go.Nod
namespace Go.Proofs.YtkbboddibgfjbaaGreatDoor
open Go.RowKit Go.Wire Go.Stamp Go.Opn Go.Nod
attribute [local go_sem] Oper.semAt_some
set_option maxRecDepth 100000 in
set_option maxHeartbeats 1000000 in
theorem signed_any (n : Nd) (pv : Value) (w : World) (hR : StrRow.Reads w pv n.ps) (hs : n.Sig) :
    Calls Tryz.prog 66 #[n.v pv] w fun e w' => e = .returned (.string n.bodyB) ∧ Below w.heap.size w w' := by
  obtain ⟨hau, h8, h32, hok, hg⟩ := hs
  have hob := Ob.bytes_length (Ob.good_is hg)
  obtain ⟨au, ps, o, tg⟩ := n
  dsimp only at hau h8 h32 hok hg hR hob
  obtain ⟨au, rfl⟩ : ∃ c' : Nat, au = c' := ⟨au.toNat, by omega⟩
  have hau1 : au < 18446744073709551616 := by omega
  have hcl : ∀ i, i ≤ ps.length → (cat (ps.take i)).length ≤ 256 := fun i hi => by
    rw [cat_length _ (fun x hx => h32 x (List.mem_of_mem_take hx)), List.length_take_of_le hi]
    omega
  obtain ⟨a, c, rfl⟩ := hR.form
  obtain ⟨kd, ⟨tc, tk⟩, th, p, nm, d, g, z⟩ := o
  have HN : Hid (∀ (n : Nat) (L : List UInt8) (w1 : World), Sg 230 60 (w.heap.size + 1) w.heap.size ((Nd.mk au ps ⟨kd, ⟨tc, tk⟩, th, p, nm, d, g, z⟩ tg).cs (.slice a ps.length c)) w L w1 → L.length ≤ 10 → n < 18446744073709551616 → Calls Tryz.prog 103 #[.pointer (some ⟨w.heap.size + 1, 0, none⟩), .int .u64 n, .int .i64 1] w1 fun e w' => e = .returned (.tuple #[]) ∧ Sg 230 60 (w.heap.size + 1) w.heap.size ((Nd.mk au ps ⟨kd, ⟨tc, tk⟩, th, p, nm, d, g, z⟩ tg).cs (.slice a ps.length c)) w (L ++ num 2 n) w') := fun n L w1 j hL hn =>
    (wnumber_any _ _ L n 1 w1 j.hw (.inr (by omega)) j.hB hn).mono fun e w' ⟨a, b, c⟩ => ⟨a, j.step b c⟩
  have HH : Hid (∀ (x : ByteArray) (L : List UInt8) (w1 : World), x.size = 32 → Sg 230 60 (w.heap.size + 1) w.heap.size ((Nd.mk au ps ⟨kd, ⟨tc, tk⟩, th, p, nm, d, g, z⟩ tg).cs (.slice a ps.length c)) w L w1 → L.length ≤ 300 → Calls Tryz.prog 104 #[.pointer (some ⟨w.heap.size + 1, 0, none⟩), .string x] w1 fun e w' => e = .returned (.tuple #[]) ∧ Sg 230 60 (w.heap.size + 1) w.heap.size ((Nd.mk au ps ⟨kd, ⟨tc, tk⟩, th, p, nm, d, g, z⟩ tg).cs (.slice a ps.length c)) w (L ++ x.data.toList) w') := fun x L w1 hx j hL =>
    (whash_any _ _ L x w1 j.hw (.inr (by omega)) j.hB).mono fun e w' ⟨a, b, c⟩ => ⟨a, j.step (by rw [pad_self x hx] at b; exact b) c⟩
  have HP : Hid (∀ (L : List UInt8) (w1 : World), Sg 230 60 (w.heap.size + 1) w.heap.size ((Nd.mk au ps ⟨kd, ⟨tc, tk⟩, th, p, nm, d, g, z⟩ tg).cs (.slice a ps.length c)) w L w1 → L.length ≤ 300 → Calls Tryz.prog 105 #[.pointer (some ⟨w.heap.size + 1, 0, none⟩), (Ob.mk kd ⟨tc, tk⟩ th p nm d g z).v] w1 fun e w' => e = .returned (.tuple #[]) ∧ Sg 230 60 (w.heap.size + 1) w.heap.size ((Nd.mk au ps ⟨kd, ⟨tc, tk⟩, th, p, nm, d, g, z⟩ tg).cs (.slice a ps.length c)) w (L ++ (Ob.mk kd ⟨tc, tk⟩ th p nm d g z).bytes) w') := fun L w1 j hL =>
    (putOp_any _ _ L _ w1 j.hw (by omega) j.hB hok hg).mono fun e w' ⟨a, b, c⟩ => ⟨a, j.step b c.below⟩
  have HA : Hid (∀ (L : List UInt8) (w1 : World), Sg 230 60 (w.heap.size + 1) w.heap.size ((Nd.mk au ps ⟨kd, ⟨tc, tk⟩, th, p, nm, d, g, z⟩ tg).cs (.slice a ps.length c)) w L w1 → Calls Tryz.prog 106 #[.pointer (some ⟨w.heap.size + 1, 0, none⟩)] w1 fun e w' => e = .returned (.string ⟨L.toArray⟩) ∧ Below w.heap.size w w') := fun L w1 j =>
    (all_told _ _ _ w1 j.hB j.told).mono fun e w' ⟨h1, _, h3⟩ => ⟨h1, j.below.trans (h3.below.mono (Nat.le_succ _))⟩
  have HR : Hid (∀ (L : List UInt8) (w1 : World), Sg 230 60 (w.heap.size + 1) w.heap.size ((Nd.mk au ps ⟨kd, ⟨tc, tk⟩, th, p, nm, d, g, z⟩ tg).cs (.slice a ps.length c)) w L w1 → StrRow.Reads w1 (.slice a ps.length c) ps) := fun L w1 j => hR.below j.below (Nat.le_refl _)
  have HB : Hid ((Nd.mk au ps ⟨kd, ⟨tc, tk⟩, th, p, nm, d, g, z⟩ tg).bodyB = ⟨(num 2 au ++ num 2 ps.length ++ cat ps ++ (Ob.mk kd ⟨tc, tk⟩ th p nm d g z).bytes).toArray⟩) := rfl
  clear hR hok hg hau
  unfold Ob.v at HP
  dsimp only at HP
  have h8' : (ps.length : Int) ≤ 8 := by omega
  generalize (Nd.mk au ps ⟨kd, ⟨tc, tk⟩, th, p, nm, d, g, z⟩ tg).bodyB = X at *
  generalize (Ob.mk kd ⟨tc, tk⟩ th p nm d g z).bytes = OB at *
  have hw1 : IntKind.u64.wrap (ps.length : Int) = ps.length := by rw [wrap_u64]; omega
  have hw2 : IntKind.u64.wrap (au : Int) = au := by rw [wrap_u64]; omega
  unfold Nd.v
  dsimp only [Nd.cs]
  go_enter Tryz.func66, Tryz.ntmps66
  go_wp2_with (first
    | (go_at_call 102; refine (newWriter_any _).mono ?_; rintro e w1 ⟨rfl, h1, k1⟩
       have I : Hid (Sg 230 60 (w.heap.size + 1) w.heap.size ((Nd.mk au ps ⟨kd, ⟨tc, tk⟩, th, p, nm, d, g, z⟩ tg).cs (.slice a ps.length c)) w [] w1) := (by
         have h1 : Wr 230 (w.heap.size + 1) (w.heap.size + 1) [] w1 := (by simpa using h1)
         have s1 : w.heap.size + 1 ≤ w1.heap.size := (by simpa using k1.size)
         exact ⟨.inr ⟨_, rfl, h1⟩, kept_block (heap_alloc_new _ _) k1, below_alloc_call k1, s1, Nat.lt_succ_self _, Nat.le_succ _⟩)
       clear h1 k1; obtain ⟨c0, c1, c2, c3, c4, c5, c6, c7, c8, c9, c10, c11⟩ := cells12 I.out.box)
    | (go_at_call_of 103 (Value.int IntKind.u64 (au : Int)); refine (HN.out au _ _ I.out (by simp) hau1).mono ?_; rintro e w1 ⟨rfl, i⟩; replace I : Hid _ := i; clear i c0 c1 c2 c3 c4 c5 c6 c7 c8 c9 c10 c11; obtain ⟨c0, c1, c2, c3, c4, c5, c6, c7, c8, c9, c10, c11⟩ := cells12 I.out.box)
    | (go_at_call_of 103 (Value.int IntKind.u64 (ps.length : Int)); refine (HN.out ps.length _ _ I.out (by simp [num_length]) (by omega)).mono ?_; rintro e w1 ⟨rfl, i⟩; replace I : Hid _ := i; clear i c0 c1 c2 c3 c4 c5 c6 c7 c8 c9 c10 c11; obtain ⟨c0, c1, c2, c3, c4, c5, c6, c7, c8, c9, c10, c11⟩ := cells12 I.out.box))
  clear c0 c1 c2 c3 c4 c5 c6 c7 c8 c9 c10 c11
  go_loopw [21] (fun vi wr => ∃ i : Nat, i ≤ ps.length ∧ vi = .int .i64 i ∧ Hid (Sg 230 60 (w.heap.size + 1) w.heap.size ((Nd.mk au ps ⟨kd, ⟨tc, tk⟩, th, p, nm, d, g, z⟩ tg).cs (.slice a ps.length c)) w (num 2 au ++ num 2 ps.length ++ cat (ps.take i)) wr)) (fun vi _ => 1000 - (intOf vi).toNat)
  case atStart => exact ⟨0, Nat.zero_le _, rfl, by rw [List.take_zero, show cat [] = [] from rfl, List.append_nil]; exact I.out⟩
  case round =>
    clear I
    obtain ⟨i, hi, rfl, I⟩ := hrel
    by_cases hlt : i < ps.length
    · have hlt' : (i : Int) < ps.length := by omega
      have hrd := HR.out _ _ I.out
      obtain ⟨b, off, cap, hv, hcap, hbl⟩ := hrd.at (by intro h; rw [h] at hlt; simp at hlt)
      simp only [Value.slice.injEq, true_and] at hv
      obtain ⟨rfl, rfl⟩ := hv
      obtain ⟨x, hx⟩ : ∃ x, ps[i]? = some x := ⟨_, List.getElem?_eq_getElem hlt⟩
      have hcell := hrd.cell hx
      have HT := hide (cat_take hx)
      have hxz : x.size = 32 := h32 x (List.mem_of_getElem? hx)
      have HC := hide (HH.out x _ _ hxz I.out (by have := hcl i hi; simp only [List.length_append, num_length]; omega))
      clear hx hrd hxz
      go_wp2_with (go_at_call 104; refine HC.out.mono ?_; rintro e w2 ⟨rfl, i2⟩; have I2 := hide i2; clear i2)
      go_roundw
      case rel => exact ⟨i + 1, by omega, by go_num, by rw [HT.out, ← List.append_assoc]; exact I2.out⟩
      case measure => simp [intOf]; omega
    · have hlt' : ¬ ((i : Int) < ps.length) := by omega
      have hin : i = ps.length := by omega
      subst hin
      rw [List.take_of_length_le (Nat.le_refl _)] at I
      have hcl2 := hcl ps.length (Nat.le_refl _)
      rw [List.take_of_length_le (Nat.le_refl _)] at hcl2
      obtain ⟨c0, c1, c2, c3, c4, c5, c6, c7, c8, c9, c10, c11⟩ := cells12 I.out.box
      go_wp2_with (first
        | (go_at_call 105; refine (HP.out _ _ I.out (by simp only [List.length_append, num_length]; omega)).mono ?_; rintro e w2 ⟨rfl, i2⟩; have I2 := hide i2; clear i2)
        | (go_at_call 106; refine (HA.out _ _ I2.out).mono ?_; rintro e w3 ⟨rfl, k3⟩))
      go_ret
      exact ⟨by rw [HB.out]; rfl, k3⟩
theorem tagD_any (x : ByteArray) (w : World) (hx : x.size ≤ 2000000) (hst : Steps w) :
    Calls Tryz.prog 52 #[.int .u8 68, .slice (some ⟨w.heap.size, 0, none⟩) 1 1] (w.alloc (.cells #[.string x] 9)) fun e w' => e = .returned (.string (tagD x.data.toList)) ∧ Below (w.alloc (.cells #[.string x] 9)).heap.size (w.alloc (.cells #[.string x] 9)) w' :=
  tagged_any 68 _ [x] _ (one_reads w x 9) (by simp) (fun s hs => by rw [List.mem_singleton.1 hs]; exact hx) (hst.alloc _)
theorem infoNode : (Tryz.prog.info? 60).map (·.size) = some 12 := by kernel_rfl
set_option maxRecDepth 100000 in
set_option maxHeartbeats 1000000 in
theorem nodeHash_any (n : Nd) (pv : Value) (w : World) (hR : StrRow.Reads w pv n.ps) (hs : n.Sig) (hst : Steps w) :
    Calls Tryz.prog 54 #[n.v pv] w fun e w' => e = .returned (.string (tagD n.body)) ∧ Below w.heap.size w w' := by
  have HA : Hid (∀ w', Below w.heap.size w w' → Calls Tryz.prog 66 #[n.v pv] w' fun e w2 => e = .returned (.string n.bodyB) ∧ Below w'.heap.size w' w2) := fun w' k => signed_any n pv w' (hR.below k (Nat.le_refl _)) hs
  have HT : Hid (∀ w, Steps w → Calls Tryz.prog 52 #[.int .u8 68, .slice (some ⟨w.heap.size, 0, none⟩) 1 1] (w.alloc (.cells #[.string n.bodyB] 9)) fun e w' => e = .returned (.string (tagD n.body)) ∧ Below (w.alloc (.cells #[.string n.bodyB] 9)).heap.size (w.alloc (.cells #[.string n.bodyB] 9)) w') := fun w h => by
    have := tagD_any n.bodyB w (by have := hs.size; omega) h
    rwa [Nd.bodyB_list] at this
  clear hs hR
  generalize n.bodyB = X at HA HT
  generalize tagD n.body = D at HT
  have HS : Hid (Steps w) := hst
  clear hst
  obtain ⟨au, ps, ⟨kd, ⟨c, k⟩, th, p, nm, d, g, z⟩, tg⟩ := n
  unfold Nd.v Nd.cs at HA ⊢
  dsimp only at HA ⊢
  go_enter Tryz.func54, Tryz.ntmps54
  go_wp2_with (first
    | (go_at_call 66; refine (HA.out _ ((Below.refl _ _).alloc (Nat.le_refl _) _)).mono ?_; rintro e w1 ⟨rfl, k1⟩)
    | (go_at_call 52; refine (HT.out w1 (HS.out.below (below_alloc_call k1) HS.out.pos)).mono ?_; rintro e w2 ⟨rfl, k2⟩))
  go_ret
  exact ⟨rfl, (below_alloc_call k1).trans ((below_alloc_call k2).mono (below_alloc_call k1).size)⟩
end Go.Proofs.YtkbboddibgfjbaaGreatDoor
/- Contracts: a node's bytes, the program's. -/
namespace Go.Nod
open Go.RowKit Go.Wire
/-- A block of one's own, and that nothing that was there has turned. -/
structure Bn (w0 : World) (g : Nat) (cs : Array Value) (S : TypeId) (w : World) : Prop where
  row : w.heap[g]? = some (.cells cs S (0, 0))
  below : Below w0.heap.size w0 w
theorem Bn.new (w : World) (cs : Array Value) (S : TypeId) : Bn w w.heap.size cs S (w.alloc (.cells cs S)) := ⟨heap_alloc_new _ _, (Below.refl _ _).alloc (Nat.le_refl _) _⟩
theorem Bn.step {w0 w w' : World} {g : Nat} {cs : Array Value} {S : TypeId} (i : Bn w0 g cs S w) (k : Below w.heap.size w w') : Bn w0 g cs S w' :=
  ⟨kept_block i.row k, i.below.trans (k.mono i.below.size)⟩
theorem bytesB_eq (n : Nd) : n.bodyB ++ n.tg = n.bytesB := by apply ext_list; simp [Nd.bodyB, Nd.bytesB]
end Go.Nod
namespace Go.Proofs.YtkbboddibgfjbaaGreatDoor
open Go.RowKit Go.Wire Go.Stamp Go.Opn Go.Nod
attribute [local go_sem] Oper.semAt_some
set_option maxRecDepth 100000 in
set_option maxHeartbeats 1000000 in
theorem nodeEncode_no (n : Nd) (pv : Value) (w : World) (hR : StrRow.Reads w pv n.ps) (hn : n.ps.length ≤ maxLen) (hx : ∀ x ∈ n.ps, x.size ≤ maxLen) (h : n.chk ≠ 0) :
    Calls Tryz.prog 37 #[n.v pv] w fun e w' => e = .returned (.tuple #[.string ⟨#[]⟩, .int .i64 n.chk]) ∧ Below w.heap.size w w' := by
  have HC : Hid (∀ w', Below w.heap.size w w' → Calls Tryz.prog 65 #[n.v pv] w' fun e w2 => e = .returned (.int .i64 n.chk) ∧ Below w'.heap.size w' w2) := fun w' k => nodeCheck_any n pv w' (hR.below k (Nat.le_refl _)) hn hx
  have h0 : (n.chk == 0) = false := beq_eq_false_iff_ne.2 h
  have HI := hide (Bn.new w (n.cs pv) 60)
  clear hR hn hx h
  generalize n.chk = C at *
  obtain ⟨au, ps, ⟨kd, ⟨c, k⟩, th, p, nm, d, g, z⟩, tg⟩ := n
  unfold Nd.v Nd.cs at *
  dsimp only at *
  go_enter Tryz.func37, Tryz.ntmps37
  go_wp2_with (first
    | (refine wpList_load_row rfl 60 _ rfl _ rfl _ _ _ _ HI.out.row Tryz.underlying60 rfl infoNode ?_)
    | (go_at_call 65; refine (HC.out _ HI.out.below).mono ?_; rintro e w1 ⟨rfl, k1⟩; replace HI := hide (HI.out.step k1); clear k1))
  go_ret2
  exact ⟨rfl, HI.out.below⟩
set_option maxRecDepth 100000 in
set_option maxHeartbeats 1000000 in
theorem nodeEncode_ok (n : Nd) (pv : Value) (w : World) (hR : StrRow.Reads w pv n.ps) (h : n.Good) :
    Calls Tryz.prog 37 #[n.v pv] w fun e w' => e = .returned (.tuple #[.string n.bytesB, .int .i64 0]) ∧ Below w.heap.size w w' := by
  have HC : Hid (∀ w', Below w.heap.size w w' → Calls Tryz.prog 65 #[n.v pv] w' fun e w2 => e = .returned (.int .i64 0) ∧ Below w'.heap.size w' w2) := fun w' k => by
    have := nodeCheck_any n pv w' (hR.below k (Nat.le_refl _)) (by have := h.few; unfold maxLen; omega) (fun x hx => by have := h.all x hx; unfold maxLen; omega)
    rwa [h.chk] at this
  have HA : Hid (∀ w', Below w.heap.size w w' → Calls Tryz.prog 66 #[n.v pv] w' fun e w2 => e = .returned (.string n.bodyB) ∧ Below w'.heap.size w' w2) := fun w' k => signed_any n pv w' (hR.below k (Nat.le_refl _)) h.sig
  have HI := hide (Bn.new w (n.cs pv) 60)
  have HX := hide (bytesB_eq n)
  have hXs : n.bodyB.size ≤ 400 := h.size
  have hts : n.tg.size = 32 := h.tag
  clear hR h
  generalize n.bodyB = X at *
  generalize n.bytesB = Y at *
  obtain ⟨au, ps, ⟨kd, ⟨c, k⟩, th, p, nm, d, g, z⟩, tg⟩ := n
  unfold Nd.v Nd.cs at *
  dsimp only at *
  go_enter Tryz.func37, Tryz.ntmps37
  go_wp2_with (first
    | (refine wpList_load_row rfl 60 _ rfl _ rfl _ _ _ _ HI.out.row Tryz.underlying60 rfl infoNode ?_)
    | (go_at_call 65; refine (HC.out _ HI.out.below).mono ?_; rintro e w1 ⟨rfl, k1⟩; replace HI := hide (HI.out.step k1); clear k1))
  refine QuietCalls.region (by kernel_rfl) (by kernel_rfl) ?_
  refine QuietCalls.load rfl 60 _ rfl _ rfl _ _ _ _ HI.out.row Tryz.underlying60 rfl infoNode ?_; simp only [Act.put, List.setIfInBounds_toArray, List.set_cons_succ, List.set_cons_zero]
  refine QuietCalls.call1 rfl rfl Tryz.call66 (fun w k => HA.out w (HI.out.below.trans (k.mono HI.out.below.size))) rfl ?_; simp only [Act.put, List.setIfInBounds_toArray, List.set_cons_succ, List.set_cons_zero]
  have c11 : w1.cell? ⟨w.heap.size, 11, none⟩ = some (.string tg) := cell_of_row _ _ _ _ _ _ HI.out.row
  have e11 := cell_regrown c11
  first | go_big_quiet_step (fail) | quiet_step (fail)
  first | go_big_quiet_step (fail) | quiet_step (fail)
  first | go_big_quiet_step (fail) | quiet_step (fail)
  first | go_big_quiet_step (fail) | quiet_step (fail)
  first | go_big_quiet_step (fail) | quiet_step (fail)
  refine wpQuiet_nil ?_
  intro w2 k2
  go_wp2_with fail
  go_ret2
  exact ⟨by rw [← HX.out]; rfl, HI.out.below.trans (k2.mono HI.out.below.size)⟩
end Go.Proofs.YtkbboddibgfjbaaGreatDoor
/- Rows of one's own: small facts; of no program. -/
namespace Go.Nod
open Go.RowKit Go.Wire
theorem own_slice {W : World} {base e : Nat} {v : Value} {k : Nat} {xs : List Value} (h : W.ownsRow base e 1 v k xs) : ∃ a c, v = .slice a k c := by
  rcases h.2 with ⟨rfl, h0⟩ | ⟨j, cap, cur, rfl, _⟩
  · exact ⟨none, 0, by rw [h0]⟩
  · exact ⟨_, _, rfl⟩
theorem own_base {W : World} {base e : Nat} {v : Value} {k j : Nat} {xs : List Value} (h : W.ownsRow base e 1 v k xs) (ej : v.ownBlock = some j) : base ≤ j := by
  rcases h.2 with ⟨rfl, _⟩ | ⟨b, cap, cur, rfl, h2, _⟩
  · cases ej
  · cases ej; exact h2
theorem own_kept {W W' : World} {base b : Nat} {e : TypeId} {v : Value} {k : Nat} {xs : List Value} (h : W.ownsRow base e 1 v k xs) (hk : Kept b W W') (hb : b < base) : W'.ownsRow base e 1 v k xs := by
  refine h.kept (row := some b) ⟨hk.below.os, hk.below.tape, hk.below.output, hk.below.size, fun j hj hne => hk.other j (fun e => hne (by rw [e])) hj⟩ ?_
  cases ho : v.ownBlock with
  | none => exact .inl rfl
  | some j =>
    refine .inr fun e => ?_
    have := own_base h ho
    cases e
    omega
end Go.Nod
/- Contracts: are two nodes the same? The program's. -/
namespace Go
/-- One operation whose run is known. -/
theorem wpList_hand {P : Program} {ops : Array Oper} {Q : Exit → Act → World → Prop} {a : Act} {w : World} {rest : List Oper} {o : Oper} (hgd : Region.wanted o (yielded ops a.tmps) = true) (v : Value)
    (ho : (execOp a.eval o).run P w = .ok (.value v) w) (h : wpList P ops Q rest (a.put o.dst v) w) : wpList P ops Q (o :: rest) a w :=
  BigFrame.wpList_want hgd fun K hK => by
    unfold Oper.wp
    rw [ho]
    exact hK _ _ h
end Go
namespace Go.Nod
open Go.RowKit Go.Wire Go.Opn
/-- Two blocks of one's own, and that nothing that was there has turned. -/
structure Bn2 (w0 : World) (g : Nat) (cs ds : Array Value) (S : TypeId) (w : World) : Prop where
  row : w.heap[g]? = some (.cells cs S (0, 0))
  row2 : w.heap[g + 1]? = some (.cells ds S (0, 0))
  below : Below w0.heap.size w0 w
theorem Bn2.new (w : World) (cs ds : Array Value) (S : TypeId) : Bn2 w w.heap.size cs ds S ((w.alloc (.cells cs S)).alloc (.cells ds S)) :=
  ⟨kept_alloc (heap_alloc_new _ _) _, by have := heap_alloc_new (w.alloc (.cells cs S)) (.cells ds S); simpa using this, ((Below.refl _ _).alloc (Nat.le_refl _) _).alloc (by simp) _⟩
theorem Bn2.step {w0 w w' : World} {g : Nat} {cs ds : Array Value} {S : TypeId} (i : Bn2 w0 g cs ds S w) (k : Below w.heap.size w w') : Bn2 w0 g cs ds S w' :=
  ⟨kept_block i.row k, kept_block i.row2 k, i.below.trans (k.mono i.below.size)⟩
theorem take_next {xs : List ByteArray} {i : Nat} {x : ByteArray} (h : xs[i]? = some x) : xs.take (i + 1) = xs.take i ++ [x] := by rw [List.take_add_one, h]; rfl
/-- Are two nodes the same? -/
def Nd.eqb (a b : Nd) : Bool := a.au == b.au && (decide (a.ps = b.ps) && (a.op.eqb b.op && a.tg.toList == b.tg.toList))
theorem Nd.eqb_iff (a b : Nd) : a.eqb b = true ↔ a = b := by
  unfold Nd.eqb
  simp only [Bool.and_eq_true, beq_iff_eq, decide_eq_true_eq, Ob.eqb_iff, toList_iff]
  obtain ⟨a1, a2, a3, a4⟩ := a
  obtain ⟨b1, b2, b3, b4⟩ := b
  simp only [Nd.mk.injEq]
end Go.Nod
namespace Go.Proofs.YtkbboddibgfjbaaGreatDoor
open Go.RowKit Go.Wire Go.Stamp Go.Opn Go.Nod
attribute [local go_sem] Oper.semAt_some
end Go.Proofs.YtkbboddibgfjbaaGreatDoor
