/- Several texts in one: MoveEntry, MoveVals. -/
import Derived.Test.YtnbhchdaobimmaaGreatDoorRunAF
import Derived.Test.YtnbhchdaobimmaaGreatDoorOpRef
import Derived.Test.YtnbhchdaobimmaaGreatDoorRegionAll
import Derived.Test.YtnbhchdaobimmaaGreatDoorRunAA
import Derived.Test.YtnbhchdaobimmaaGreatDoorRowsAll
/- Contracts: the law's operations, as the program and as the document have them. -/
namespace Go.Mov
open Go.RowKit Go.Opn
/-- An operation of the law's: with one letter of a digest. -/
structure Le where
 op : Ob
 h : UInt8
def Le.cs (e : Le) : List Value := [.int .i64 e.op.kind, .int .u64 e.op.tm.c, .int .i64 e.op.tm.k, .int .u64 e.op.thing, .int .u64 e.op.par, .string e.op.name, .bool e.op.dir, .string e.op.dg, .int .i64 e.op.size, .int .u8 (e.h.toNat : Nat)]
def Le.v (e : Le) : Value := .agg #[.int .i64 e.op.kind, .int .u64 e.op.tm.c, .int .i64 e.op.tm.k, .int .u64 e.op.thing, .int .u64 e.op.par, .string e.op.name, .bool e.op.dir, .string e.op.dg, .int .i64 e.op.size, .int .u8 (e.h.toNat : Nat)]
def Le.en (e : Le) : En := ⟨e.op, ⟨#[e.h]⟩⟩
end Go.Mov
namespace Go.Proofs.YtnbhchdaobimmaaGreatDoor
open Go.RowKit Go.Opn Go.Stamp Go.MapInt Go.Mov Go.Shelf
attribute [local go_sem] Oper.semAt_some
set_option maxRecDepth 100000 in
theorem infoREn : (Tryz.prog.info? 72).map (·.size) = some 10 := by kernel_rfl
set_option maxRecDepth 100000 in
theorem uB : Tryz.prog.underlying 65 = some (.slice 5) := by kernel_rfl
set_option maxRecDepth 100000 in
theorem u5 : Tryz.prog.underlying 5 = some (.int .u8) := by kernel_rfl
set_option maxRecDepth 100000 in
theorem u9 : Tryz.prog.underlying 9 = some .string := by kernel_rfl
set_option maxRecDepth 100000 in
theorem conv1 (q : UInt8) (g : Nat) (W : World) (h : W.cell? ⟨g, 0, none⟩ = some (.int .u8 (q.toNat : Nat))) : (convert 65 9 (.slice (some ⟨g, 0, none⟩) 1 1)).run Tryz.prog W = .ok (.string ⟨#[q]⟩) W := by
 have hr := run_convert_bytes_back (P := Tryz.prog) W 65 9 5 ⟨g, 0, none⟩ 1 [q] uB u5 u9 (fun j hj => by
  obtain rfl : j = 0 := by simp at hj; omega
  exact h)
 exact hr
end Go.Proofs.YtnbhchdaobimmaaGreatDoor
/- Contract: things, gone over one by one. -/
theorem Go.old_alloc_MoveVals (w : Go.World) (o : Go.Obj) (i : Nat) (h : i < w.heap.size) : (w.alloc o).heap[i]? = w.heap[i]? := by first | exact Go.heap_alloc_old w o i h | exact Go.heap_alloc_old w o h
namespace Go.Mov
open Go.RowKit Go.Rws
abbrev TsAt (w : World) (v : Value) (ts : List Th) : Prop := RowsAt Th.cs 6 w v ts
theorem Th.cs_length (x : Th) : x.cs.length = 6 := rfl
theorem cells6t {w : World} {g o : Nat} {x : Th} (h : w.rangeAt g o x.cs) : w.cell? ⟨g, o, none⟩ = some (.int .u64 x.id) ∧ w.cell? ⟨g, o + 1, none⟩ = some (.int .u64 x.par) ∧ w.cell? ⟨g, o + 2, none⟩ = some (.string x.name) ∧ w.cell? ⟨g, o + 3, none⟩ = some (.bool x.dir) ∧ w.cell? ⟨g, o + 4, none⟩ = some (.string x.dg) ∧ w.cell? ⟨g, o + 5, none⟩ = some (.int .i64 x.size) :=
 ⟨h 0 _ rfl, h 1 _ rfl, h 2 _ rfl, h 3 _ rfl, h 4 _ rfl, h 5 _ rfl⟩
end Go.Mov
namespace Go.Proofs.YtnbhchdaobimmaaGreatDoor
open Go.RowKit Go.Opn Go.Stamp Go.MapInt Go.Mov Go.Shelf Go.Rws
attribute [local go_sem] Oper.semAt_some
abbrev Tp (p : Th → Prop) := { x : Th // p x }
set_option maxRecDepth 100000 in
theorem values_any (a : Option Addr) (n c : Nat) (w : World) : Calls Tryz.prog 58 #[.slice a n c] w fun e w' => e = .returned (.func (.func 86) #[] #[.pointer (some ⟨w.heap.size, 0, none⟩)]) ∧ w' = w.alloc (.cells #[.slice a n c] 80) := by
 go_enter Tryz.func58, Tryz.ntmps58
 go_wp2
 go_ret
 exact ⟨rfl, rfl⟩
set_option maxHeartbeats 4000000 in
set_option maxRecDepth 100000 in
theorem vals_of {a : Option Addr} {c : Nat} (p : Th → Prop) (ts : List Th) (hp : ∀ s ∈ ts, p s) (bx g m : Nat) (w0 : World) (hb : w0.cell? ⟨bx, 0, none⟩ = some (.slice a ts.length c)) (hg : ∀ x, a = some x → x.block = g) (hR : TsAt w0 (.slice a ts.length c) ts) (hn : ts.length ≤ 1000000) :
  SeqStopsK Fence.wide m Tryz.prog 86 #[.pointer (some ⟨bx, 0, none⟩)] (fun x : Tp p => #[x.1.v]) (KpB bx g) (fun xs => xs.map (·.1) = ts) (fun xs => xs.map (·.1) <+: ts) ts.length w0 := by
 intro l J Jx W hW hJ hJx hY h0
 refine callsIn_of_wp Tryz.func86 rfl trivial ?_ rfl
 simp only [Tryz.ntmps86, List.size_toArray, List.length_cons, List.length_nil, Nat.reduceAdd, Nat.reduceSub, Array.replicate_succ, Array.replicate_zero, List.push_toArray, List.append_toArray, List.nil_append, List.cons_append]
 have hbW : W.cell? ⟨bx, 0, none⟩ = some (.slice a ts.length c) := (hW.cell (p := ⟨bx, 0, none⟩) (cell_lt hb)).trans hb
 have HY := hide hY
 have H0 := hide (And.intro h0 (And.intro hbW (And.intro (hR.below hW) (Nat.le_refl W.heap.size))))
 have HG := hide hg
 have HJ := hide hJ
 have hbx : Hid (bx < W.heap.size) := cell_lt hbW
 clear hY h0 hW hJ hJx hg hb hR
 gi_wp2_with fail
 gi_loopw [7] (fun vs wr => ∃ (k : Nat) (pre : List (Tp p)), vs = .int .i64 k ∧ k ≤ ts.length ∧ Hid (pre.map (·.1) = ts.take k ∧ J pre wr ∧ wr.cell? ⟨bx, 0, none⟩ = some (.slice a ts.length c) ∧ TsAt wr (.slice a ts.length c) ts ∧ W.heap.size ≤ wr.heap.size)) (fun vs _ => ts.length - (intOf vs).toNat)
 case atStart => exact ⟨0, [], rfl, Nat.zero_le _, rfl, H0.out⟩
 case round =>
  obtain ⟨k, pre, rfl, hk, HP⟩ := hrel
  clear H0
  by_cases hlt : k < ts.length
  ·have hlen : pre.length = k := by have := congrArg List.length HP.out.1; rw [List.length_map, List.length_take] at this; omega
   obtain ⟨x, hx⟩ : ∃ x, ts[k]? = some x := ⟨_, List.getElem?_eq_getElem (by omega)⟩
   have hpx : p x := hp x (List.mem_of_getElem? hx)
   obtain ⟨gg, off, ha, _, hcap, hgl, hrg⟩ := HP.out.2.2.2.1.at (fun e => by rw [e] at hlt; cases hlt)
   subst ha
   have HYx := hide (HY.out pre ⟨x, hpx⟩ (wr.alloc (.cells #[.int .u64 x.id, .int .u64 x.par, .string x.name, .bool x.dir, .string x.dg, .int .i64 x.size] 79)) (HJ.out _ _ _ none HP.out.2.1 ⟨rfl, rfl, rfl, by simp, fun q hq _ => Go.old_alloc_MoveVals _ _ _ hq⟩ (fun r e => by cases e)) (by omega))
   obtain ⟨fn, tmps, assign, body, hy, hR⟩ := HYx.out
   clear HYx
   obtain ⟨d0, d1, d2, d3, d4, d5⟩ := cells6t (hrg k x hx)
   dsimp only at hy
   unfold Th.v at hy
   have hkl : (k : Int) < ts.length := by omega
   have hk0 : (0 : Int) ≤ k := by omega
   have hcI : (ts.length : Int) ≤ c := by omega
   have HS := hide (And.intro hx (And.intro hgl hrg))
   clear hx hgl hrg hlen
   gi_wp2_with fail
   refine ⟨fun h => (by cases h), hR.mono ?_⟩
   rintro e W3 (⟨rfl, hJ3, hk3⟩ | ⟨rfl, hJx3⟩)
   ·have hH : Hid (J (pre ++ [⟨x, hpx⟩]) W3 ∧ W3.cell? ⟨bx, 0, none⟩ = some (.slice (some ⟨gg, off, none⟩) ts.length c) ∧ TsAt W3 (.slice (some ⟨gg, off, none⟩) ts.length c) ts ∧ W.heap.size ≤ W3.heap.size) := by
     have hs3 : wr.heap.size + 1 ≤ W3.heap.size := by have := hk3.1; simpa using this
     have hgg : gg = g := HG.out _ rfl
     have hbl : bx < wr.heap.size := Nat.lt_of_lt_of_le hbx.out HP.out.2.2.2.2
     have e3 : W3.heap[bx]? = wr.heap[bx]? := hk3.2.1.trans (Go.old_alloc_MoveVals _ _ _ hbl)
     have e4 : W3.heap[gg]? = wr.heap[gg]? := by
      have := hk3.2.2
      rw [← hgg] at this
      exact this.trans (Go.old_alloc_MoveVals _ _ _ HS.out.2.1)
     exact ⟨hJ3, (cell_same e3).trans HP.out.2.2.1, HP.out.2.2.2.1.kept (by omega) (fun q hq => by cases hq; exact e4), by have := HP.out.2.2.2.2; omega⟩
    clear hJ3 hk3 hR hy
    gi_wp2_with fail
    go_roundw
    case rel =>
     refine ⟨k + 1, pre ++ [⟨x, hpx⟩], by simp, by omega, ?_, hH.out⟩
     rw [List.map_append, HP.out.1, List.take_add_one, HS.out.1]
     rfl
    case measure => simp only [intOf]; omega
   ·clear hR hy
    gi_wp2_with fail
    refine bodyPost_ret (results_none rfl _ _ _) rfl ?_
    refine ⟨⟨_, rfl⟩, .inr ⟨pre ++ [⟨x, hpx⟩], ?_, hJx3⟩⟩
    rw [List.map_append, HP.out.1]
    have e5 : ts.take k ++ [x] = ts.take (k + 1) := by rw [List.take_add_one, HS.out.1]; rfl
    show ts.take k ++ [x] <+: ts
    rw [e5]
    exact List.take_prefix _ _
  ·obtain rfl : k = ts.length := by omega
   gi_wp2_with fail
   go_end0
   refine ⟨⟨_, rfl⟩, .inl ⟨pre, ?_, HP.out.2.1⟩⟩
   have := HP.out.1
   rwa [List.take_length] at this
end Go.Proofs.YtnbhchdaobimmaaGreatDoor
