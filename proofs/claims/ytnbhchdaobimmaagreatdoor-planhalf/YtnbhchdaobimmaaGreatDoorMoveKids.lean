/- Contracts: the things below one, where there is at most one. -/
import Derived.Test.YtnbhchdaobimmaaGreatDoorRunAF
import Derived.Test.YtnbhchdaobimmaaGreatDoorRowsAll
namespace Go.Mov
open Go.RowKit Go.MapInt Go.MapFun
/-- How many of some stand below a number. -/
def cntK (l : List (Int × Th)) (k : Int) : Nat := (l.filter fun x => decide (x.2.par = k)).length
/-- The things below a number. -/
def kidsOf (t : Ths) (k : Int) : Ths := t.filter fun x => decide (x.par = k)
/-- While a map is gone over: the iterator's block r. -/
structure OvI (P : Program) (kt : Nat) (b r : Nat) (l todo : List (Int × Th)) (w0 w : World) : Prop where
 rng : RngL P kt thE w b r l todo
 below : Below w0.heap.size w0 w
 hr : w0.heap.size ≤ r
end Go.Mov
namespace Go.Proofs.YtnbhchdaobimmaaGreatDoor
open Go.RowKit Go.Opn Go.Stamp Go.MapInt Go.Mov Go.Shelf Go.Rws
attribute [local go_sem] Oper.semAt_some
set_option maxRecDepth 100000 in
set_option maxHeartbeats 1000000 in
theorem lenBits64_any (x : Nat) (w : World) (hx2 : x < 256) :
  Calls Tryz.prog 98 #[.int .u64 x] w fun e w' => ∃ k, e = .returned (.int .i64 k) ∧ w' = w := by
 have hx3 : (x : Int) < 256 := by omega
 have hx0 : (0 : Int) ≤ x := by omega
 go_enter Tryz.func98, Tryz.ntmps98
 have hc1 : ¬ ((4294967296 : Int) ≤ x) := by omega
 have hc2 : ¬ ((65536 : Int) ≤ x) := by omega
 have hc3 : ¬ ((256 : Int) ≤ x) := by omega
 iterate 21 go_step
 refine wp_cond_split rfl (fun h => (by cases h)) (fun _ => ?_)
 iterate 62 go_step
 go_ret
 exact ⟨_, rfl, rfl⟩
set_option maxRecDepth 100000 in
theorem lenBits_any (x : Nat) (w : World) (hx2 : x < 256) :
  Calls Tryz.prog 62 #[.int .u64 x] w fun e w' => ∃ k, e = .returned (.int .i64 k) ∧ w' = w := by
 have H := hide (lenBits64_any x w hx2)
 go_enter Tryz.func62, Tryz.ntmps62
 go_wp2_with (go_at_call 98; refine H.out.mono ?_; rintro e w' ⟨k, rfl, hw⟩; subst hw)
 go_ret
 exact ⟨_, rfl, rfl⟩
set_option maxRecDepth 100000 in
theorem insSort_few (a : Option Addr) (n c : Nat) (w : World) (hn : n ≤ 1) :
  Calls Tryz.prog 129 #[.slice a n c, .int .i64 0, .int .i64 n] w fun e w' => (∃ v, e = .returned v) ∧ w' = w := by
 have h1 : ¬ (1 : Int) < n := by omega
 go_enter Tryz.func129, Tryz.ntmps129
 go_wp2_with fail
 go_loopw [6] (fun v6 wr => v6 = .int .i64 1 ∧ wr = w) (fun _ _ => 0)
 case atStart => exact ⟨rfl, rfl⟩
 case round =>
  obtain ⟨rfl, rfl⟩ := hrel
  go_wp2_with fail
  go_end0
  exact ⟨⟨_, rfl⟩, rfl⟩
set_option maxRecDepth 100000 in
theorem pdq_few (a : Option Addr) (n c : Nat) (k : Int) (w : World) (hn : n ≤ 1) :
  Calls Tryz.prog 113 #[.slice a n c, .int .i64 0, .int .i64 n, .int .i64 k] w fun e w' => (∃ v, e = .returned v) ∧ w' = w := by
 have H := hide (insSort_few a n c w hn)
 have h1 : (n : Int) ≤ 12 := by omega
 have h0 : (0 : Int) ≤ n := by omega
 go_enter Tryz.func113, Tryz.ntmps113
 go_wp2_with fail
 go_loopw [1, 2] (fun v1 v2 wr => v1 = .int .i64 0 ∧ v2 = .int .i64 n ∧ wr = w) (fun _ _ _ => 0)
 case atStart => exact ⟨rfl, rfl, rfl⟩
 case round =>
  obtain ⟨rfl, rfl, rfl⟩ := hrel
  go_wp2_with (go_at_call 129; refine H.out.mono ?_; rintro e w' ⟨⟨v, rfl⟩, rfl⟩; clear H)
  refine bodyPost_ret (results_none rfl _ _ _) rfl ?_
  exact ⟨⟨_, rfl⟩, rfl⟩
set_option maxRecDepth 100000 in
theorem sort_few (a : Option Addr) (n c : Nat) (w : World) (hn : n ≤ 1) :
  Calls Tryz.prog 84 #[.slice a n c] w fun e w' => (∃ v, e = .returned v) ∧ w' = w := by
 have H := hide (fun k => pdq_few a n c k w hn)
 have HL := hide (lenBits_any n w (by omega))
 have h0 : (0 : Int) ≤ n := by omega
 have h1 : (n : Int) ≤ 1 := by omega
 go_enter Tryz.func84, Tryz.ntmps84
 go_wp2_with (first
  | (go_at_call 62; refine HL.out.mono ?_; rintro e w' ⟨k, rfl, rfl⟩; clear HL)
  | (go_at_call 113; refine (H.out _).mono ?_; rintro e w' ⟨⟨v, rfl⟩, rfl⟩; clear H))
 go_end0
 exact ⟨⟨_, rfl⟩, rfl⟩
set_option maxRecDepth 100000 in
theorem infoU64 : (Tryz.prog.info? 49).map (fun i => (i.zero, i.size, i.bytes)) = some (some (.int .u64 0), 1, 8) := by kernel_rfl
end Go.Proofs.YtnbhchdaobimmaaGreatDoor
