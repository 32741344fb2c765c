/- Several texts in one: MoveDeep, MoveTrashMath, RegionRound. -/
import Derived.Test.YtnbhchdaobimmaaGreatDoorRunAF
import Derived.Test.YtnbhchdaobimmaaGreatDoorMoveKids
import Derived.Test.YtnbhchdaobimmaaGreatDoorHeldAll
import Derived.OrdersIn
import Derived.TacticsInMore
import Derived.RangeFuncCalls
/- Contract: how many steps up a thing stands. -/
namespace Go.Mov
open Go.RowKit
/-- How many steps up to the root or the trash; -1: there is none. -/
def deepIn : List Int → Nat → Int
 | [], _ => -1
 | y :: r, n => if top y then n else deepIn r (n + 1)
end Go.Mov
namespace Go.Proofs.YtnbhchdaobimmaaGreatDoor
open Go.RowKit Go.Opn Go.Stamp Go.MapInt Go.Mov Go.Shelf
attribute [local go_sem] Oper.semAt_some
/-- All blocks below n stand, but s. -/
def Kps (n s : Nat) (W W' : World) : Prop := W.heap.size ≤ W'.heap.size ∧ ∀ i, i < n → i ≠ s → W'.heap[i]? = W.heap[i]?
end Go.Proofs.YtnbhchdaobimmaaGreatDoor
/- Folders within folders, one deleted, and moved again: reckoned; of no program. -/
namespace Go.Mov
open Go.RowKit Go.Opn
def crE (i : Int) : En := ⟨⟨1, ⟨i, 0⟩, 16 * i, 16 * (i - 1), ⟨#[97]⟩, true, ⟨#[]⟩, 0⟩, ⟨#[104]⟩⟩
def delE (a : Int) : En := ⟨⟨3, ⟨50, 0⟩, a, 0, ⟨#[]⟩, false, ⟨#[]⟩, 0⟩, ⟨#[104]⟩⟩
def movE (a : Int) : En := ⟨⟨2, ⟨60, 0⟩, a, 0, ⟨#[98]⟩, false, ⟨#[]⟩, 0⟩, ⟨#[104]⟩⟩
def crs (n : Nat) : List En := (List.range n).map fun (j : Nat) => crE ((j : Int) + 1)
def tr2 (n : Nat) (a : Int) : Ths := ths [] (addsU (crs n ++ [delE a])).1
def tr3 (n : Nat) (a : Int) : Ths := ths [] (addsU (crs n ++ [delE a] ++ [movE a])).1
/-- All that is asked behind the deletion. -/
def ok2 (n : Nat) (a : Int) : Bool :=
 ((List.range n).all fun (j : Nat) => below (tr2 n a).length (tr2 n a) (16 * ((j : Int) + 1)) a == decide (a ≤ 16 * ((j : Int) + 1)) && decide (1 ≤ deepIn (wayUp (tr2 n a).length (tr2 n a) (16 * ((j : Int) + 1))) 0)) &&
 (match look (tr2 n a) a with | some x => x.par == 1 | none => false) && (kidsOf (tr2 n a) 1).length == 1
/-- All that is asked behind the move. -/
def ok3 (n : Nat) (a : Int) : Bool :=
 (match look (tr3 n a) a with | some x => x.par == 0 && decide (x.name.data = #[98]) | none => false) && (kidsOf (tr3 n a) 1).length == 0 && !(tr3 n a).isEmpty
end Go.Mov
namespace Go.Proofs.YtnbhchdaobimmaaGreatDoor
open Go.RowKit Go.Opn Go.Stamp Go.MapInt Go.Mov Go.Shelf
variable {W v : World} {b : Nat} {S : Nat → Prop} {l : List En} {u : Int}
end Go.Proofs.YtnbhchdaobimmaaGreatDoor
/- A region that draws its order, inside a round of a loop that goes over a function: what holds outside holds there; of no program. -/
namespace Go.RoundR
open Go.RowKit
variable {P : Program} {ops : Array Oper} {md : Region.Mode} {l n : Nat}
/-- What is asked where nothing but a normal end is allowed. -/
def Only (R : Act → World → Prop) : Exit → Act → World → Prop
 | .normal, a, w => R a w
 | _, _, _ => False
theorem rows_round {row : String} {args : Array Value} {w : World} {R : Value → World → Prop} (h : Rows P row args w R) : RowsIn (Fence.wide.inRound l) n P row args w R := fun c cs _ =>
 let ⟨v, w', r, s⟩ := h c cs
 ⟨v, w', r, stepsIn_wide.2 s⟩
theorem op_round {R : Act → World → Prop} {Q : Exit → Act → World → Prop} {i : Nat} {a : Act} {w : World} {K K' : Act → World → Prop} (hd : ∀ o, ops[i]? = some o → ∀ c, o.op ≠ .defer c) (hK : ∀ a w, K a w → K' a w) (h : wpOp P ops (Only R) i K a w) : wpOpIn (Fence.wide.inRound l) n P ops Q i K' a w := by
 unfold wpOp at h
 unfold wpOpIn
 cases ho : ops[i]? with
 | none => simp only [ho] at h ⊢; exact hK _ _ h
 | some o =>
  simp only [ho] at h ⊢
  by_cases hw : Region.wanted o (yielded ops a.tmps) = true
  ·rw [if_pos hw] at h
   rw [if_pos hw]
   rcases h with h | ⟨_, _, _, h⟩
   ·refine ⟨fun _ _ => trivial, ?_⟩
    rw [Fence.inRound_round, Oper.semAt_some l a.eval o (hd o ho)]
    unfold Oper.wp at h
    generalize (execOp a.eval o).run P w = r at h
    cases r with
    | halt x w' => cases x <;> exact False.elim h
    | ok x w' =>
     cases x with
     | value u => exact hK _ _ h
     | skip => exact hK _ _ h
     | defer d => exact hK _ _ h
     | enter f args =>
      refine ⟨fun h => (by cases h), (CallsIn.inRound l (callsIn_wide.2 h)).mono ?_⟩
      intro e w'' he
      cases e with
      | returned v => exact hK _ _ he
      | panicked c => exact False.elim he
      | outgrown => obtain ⟨_, _, he⟩ := he; exact False.elim he
     | row r args => exact ⟨fun h => (by cases h), (rows_round h).mono fun v w'' he => hK _ _ he⟩
     | _ => exact False.elim h
   ·exact False.elim h
  ·rw [if_neg hw] at h
   rw [if_neg hw]
   exact ⟨fun _ _ => trivial, hK _ _ h⟩
theorem any_round {R : Act → World → Prop} {Q : Exit → Act → World → Prop} (hd : ∀ (i : Nat) (o : Oper), ops[i]? = some o → ∀ c, o.op ≠ .defer c) (hR : ∀ a w, R a w → Q .normal a w) :
  ∀ (f : Nat) (listed : Array Bool) (a : Act) (w : World), wpAny P md ops (Only R) f listed a w → wpAnyIn (Fence.wide.inRound l) n P md ops Q f listed a w
 | 0, _, a, w, h => ⟨h.1, hR a w h.2⟩
 | f + 1, _, a, w, h => ⟨fun h0 => hR a w (h.1 h0), fun i hi => op_round (hd i) (fun a' w' h' => any_round hd hR f _ a' w' h') (h.2 i hi)⟩
/-- Some taken first, then two in either order, then the rest: inside a round. -/
theorem held2 {id : Nat} {l' : List Oper} {Q : Exit → Act → World → Prop} {a : Act} {w : World} (S : World → Prop) (r : List Nat) (i j : Nat) (r2 : List (Bool × Nat)) (hm : P.follows .mixedOrders = true) (hd : (l'.all fun o => match o.op with | .defer _ => false | _ => true) = true)
  (hB : (Region.noSelect l'.toArray && HeldO.takesB l'.toArray i j r2 r (Array.replicate l'.length false)) = true) (hlen : r.length + 2 + r2.length = l'.length) (hS : S w.drew)
  (h : HeldO.takes P l'.toArray S (fun a' w' => HeldO.one P l'.toArray S (Only fun a w => Q .normal a w) i (HeldO.one P l'.toArray S (Only fun a w => Q .normal a w) j (HeldO.wp P l'.toArray S (Only fun a w => Q .normal a w) r2)) a' w' ∧ HeldO.one P l'.toArray S (Only fun a w => Q .normal a w) j (HeldO.one P l'.toArray S (Only fun a w => Q .normal a w) i (HeldO.wp P l'.toArray S (Only fun a w => Q .normal a w) r2)) a' w') r a w.drew) : (Code.region id l'.toArray true).wpIn (Fence.wide.inRound l) n P Q a w := by
 refine wpIn_region_any hm ?_
 refine any_round (R := fun a w => Q .normal a w) (fun i o ho c e => ?_) (fun _ _ h => h) _ _ _ _ ?_
 ·have hmem : o ∈ l' := List.mem_of_getElem? (i := i) (by simpa using ho)
  have := List.all_eq_true.1 hd o hmem
  rw [e] at this
  cases this
 ·rw [Bool.and_eq_true] at hB
  have := HeldO.any_takes hB.1 (S := S) (Q := Only fun a w => Q .normal a w) (fun d v c a w h => h) r _ a _ hB.2 hS h
  rw [show r.length + (r2.length + 1 + 1) = l'.length by omega] at this
  have h2 := wpAny_of_held _ _ _ _ this
  simpa using h2
/-- The same outside a round, whatever else is asked. -/
theorem held_out {id : Nat} {l' : List Oper} {Q : Exit → Act → World → Prop} {a : Act} {w : World} (S : World → Prop) (r : List (Bool × Nat)) (hm : P.follows .mixedOrders = true) (hB : (Region.noSelect l'.toArray && HeldO.fitB l'.toArray r (Array.replicate l'.length false)) = true) (hlen : r.length = l'.length)
  (hS : S w.drew) (h : HeldO.wp P l'.toArray S (Only fun a w => Q .normal a w) r a w.drew) : (Code.region id l'.toArray true).wp P Q a w := by
 refine wp_mono (HeldO.region S r hm hB hlen (fun _ _ _ _ _ h => h) hS h) fun e a w h => ?_
 cases e <;> first | exact h | exact False.elim h
end Go.RoundR
