/- Several texts in one: MoveDeep, MoveTrashMath, RegionRound. -/
import Derived.Test.YtngikahadkoliaaGreatDoorRunAF
import Derived.Test.YtngikahadkoliaaGreatDoorMoveKids
import Derived.Test.YtngikahadkoliaaGreatDoorHeldAll
import Derived.OrdersIn
import Derived.TacticsInMore
import Derived.RangeFuncCalls
/- Contract: how many steps up a thing stands. -/
namespace Go.Mov
open Go.RowKit
/-- How many steps up to the root or the trash; -1: there is none. -/
def deepIn : List Int → Nat → Int
  | [], _ => -1
  | y :: r, n => if top y then n else deepIn r (n + 1)
theorem deepIn_none : ∀ (l : List Int) (n : Nat), (∀ y ∈ l, top y = false) → deepIn l n = -1
  | [], _, _ => rfl
  | y :: r, n, h => by unfold deepIn; rw [h y (by simp)]; exact deepIn_none r (n + 1) fun z hz => h z (by simp [hz])
theorem deepIn_some : ∀ (l : List Int) (y : Int) (r : List Int) (n : Nat), (∀ z ∈ l, top z = false) → top y = true → deepIn (l ++ y :: r) n = n + l.length
  | [], y, r, n, _, h => by show (if top y then (n : Int) else _) = _; rw [h]; simp
  | x :: l, y, r, n, h1, h2 => by
    show (if top x then (n : Int) else deepIn (l ++ y :: r) (n + 1)) = _
    rw [h1 x (by simp), if_neg (by decide), deepIn_some l y r (n + 1) (fun z hz => h1 z (by simp [hz])) h2, List.length_cons]
    omega
end Go.Mov
namespace Go.Proofs.YtngikahadkoliaaGreatDoor
open Go.RowKit Go.Opn Go.Stamp Go.MapInt Go.Mov Go.Shelf
attribute [local go_sem] Oper.semAt_some
set_option maxRecDepth 100000 in
theorem way_length (t : Ths) (k : Int) : (way t k).length ≤ t.length + 1 := by
  unfold way
  suffices h : ∀ n k, (wayUp n t k).length ≤ n + 1 from h _ _
  intro n
  induction n with
  | zero => intro k; simp [wayUp]
  | succ n ih =>
    intro k
    unfold wayUp
    split
    · have := ih (by assumption : Th).par; rw [List.length_cons]; omega
    · simp
/-- All blocks below n stand, but s. -/
def Kps (n s : Nat) (W W' : World) : Prop := W.heap.size ≤ W'.heap.size ∧ ∀ i, i < n → i ≠ s → W'.heap[i]? = W.heap[i]?
set_option maxRecDepth 100000 in
theorem Kps.trans {n s : Nat} {A B C : World} (h : Kps n s A B) (k : Kps n s B C) : Kps n s A C := ⟨Nat.le_trans h.1 k.1, fun i h1 h2 => (k.2 i h1 h2).trans (h.2 i h1 h2)⟩
set_option maxRecDepth 100000 in
theorem Kps.mono {n m s : Nat} {A B : World} (h : Kps n s A B) (hm : m ≤ n) : Kps m s A B := ⟨h.1, fun i h1 h2 => h.2 i (Nat.lt_of_lt_of_le h1 hm) h2⟩
set_option maxRecDepth 100000 in
theorem Kps.of {n s : Nat} {A B : World} (h : Below n A B) : Kps n s A B := ⟨h.size, fun i h1 _ => h.block i h1⟩
set_option maxRecDepth 100000 in
theorem cell_of_same {w w' : World} {b i : Nat} (h : w'.heap[b]? = w.heap[b]?) : w'.cell? ⟨b, i, none⟩ = w.cell? ⟨b, i, none⟩ := by unfold World.cell?; dsimp only; rw [h]
set_option maxRecDepth 100000 in
theorem Kps.ths {s b : Nat} {mb : Option Nat} {t : Ths} {A B : World} (h : Kps A.heap.size s A B) (k : ThsAt Tryz.prog 49 b mb t A) (h1 : b ≠ s) (h2 : mb ≠ some s) : ThsAt Tryz.prog 49 b mb t B :=
  ⟨(cell_of_same (h.2 b k.lt h1)).trans k.cell, k.map.kept fun m hm => h.2 m (k.map.lt hm) fun e => h2 (e ▸ hm)⟩
set_option maxHeartbeats 4000000 in
set_option maxRecDepth 100000 in
theorem up_inS {b : Nat} {mb : Option Nat} {t : Ths} (k : Int) (b1 b2 m n0 : Nat) (w0 : World) (h : ThsAt Tryz.prog 49 b mb t w0) (hf : Fine t) (hk : Num k) (h1 : w0.cell? ⟨b1, 0, none⟩ = some (.int .u64 k)) (h2 : w0.cell? ⟨b2, 0, none⟩ = some (.pointer (some ⟨b, 0, none⟩))) (hn0 : w0.heap.size ≤ n0) (s : Nat) (hs : b ≠ s ∧ mb ≠ some s ∧ b1 ≠ s ∧ b2 ≠ s) :
    SeqStopsK Fence.wide m Tryz.prog 145 #[.pointer (some ⟨b1, 0, none⟩), .pointer (some ⟨b2, 0, none⟩)] (fun x : U64 => #[.int .u64 x.1]) (Kps n0 s) (fun xs => xs.map (·.1) = way t k) (fun pre => pre.map (·.1) <+: way t k) (way t k).length w0 := by
  intro l J Jx W hW hJ hJx hY h0
  refine callsIn_of_wp Tryz.func145 rfl trivial ?_ rfl
  simp only [Tryz.ntmps145, List.size_toArray, List.length_cons, List.length_nil, Nat.reduceAdd, Nat.reduceSub, Array.replicate_succ, Array.replicate_zero, List.push_toArray, List.append_toArray, List.nil_append, List.cons_append]
  have hb1 : W.cell? ⟨b1, 0, none⟩ = some (.int .u64 k) := (hW.cell (p := ⟨b1, 0, none⟩) (cell_lt h1)).trans h1
  have HY := hide hY
  have H0 := hide h0
  have HW := hide hW
  have HJ := hide hJ
  have HF := hide hf
  have HT := hide h
  have H2 := hide h2
  have HN := hide (And.intro hn0 hs)
  clear hY h0 h1 hW hJ hJx hf h h2 hn0 hs
  gi_wp2_with fail
  gi_loopw [4] (fun vs wr => ∃ (j : U64) (pre : List U64), vs = .int .u64 j.1 ∧ Hid (pre.map (·.1) ++ way t j.1 = way t k ∧ J pre wr ∧ Kps w0.heap.size s w0 wr ∧ W.heap.size ≤ wr.heap.size)) (fun vs _ => match vs with | .int .u64 j => (way t j).length | _ => 0)
  case atStart => exact ⟨⟨k, hk⟩, [], rfl, rfl, H0.out, Kps.of HW.out, Nat.le_refl _⟩
  case round =>
    obtain ⟨j, pre, rfl, HP⟩ := hrel
    clear H0
    have hpl : pre.length < (way t k).length := by
      have := congrArg List.length HP.out.1
      rw [List.length_append, List.length_map] at this
      have h2 : 0 < (way t j.1).length := by
        cases hx : Mov.look t j.1 with
        | none => rw [way_end hx]; simp
        | some x => rw [way_step HF.out hx]; simp
      omega
    obtain ⟨fn, tmps, assign, body, hy, hR⟩ := HY.out pre j wr HP.out.2.1 hpl
    gi_wp2_with fail
    refine ⟨fun h => (by cases h), hR.mono ?_⟩
    rintro e W3 (⟨rfl, hJ3, hk3⟩ | ⟨rfl, hJx3⟩)
    · have HG := hide hJ3
      have hB : Kps w0.heap.size s w0 W3 := HP.out.2.2.1.trans (hk3.mono HN.out.1)
      have hT := hB.ths HT.out HN.out.2.1 HN.out.2.2.1
      have c0 := hT.cell
      have c2 : W3.cell? ⟨b2, 0, none⟩ = some (.pointer (some ⟨b, 0, none⟩)) := (cell_of_same (hB.2 b2 (cell_lt H2.out) HN.out.2.2.2.2)).trans H2.out
      have hl := look_two hT j.1 j.2
      have HB := hide hB
      have hs3 : W.heap.size ≤ W3.heap.size := Nat.le_trans HP.out.2.2.2 hk3.1
      clear hJ3 hk3 hR hy hT hB
      cases hx : Mov.look t j.1 with
      | none =>
        rw [hx] at hl
        unfold gotT Th.v Th.zero at hl
        dsimp only at hl
        gi_wp2_with fail
        refine bodyPost_ret (results_none rfl _ _ _) rfl ?_
        have := HP.out.1
        rw [way_end hx] at this
        refine ⟨⟨_, rfl⟩, .inl ⟨pre ++ [j], by simpa using this, ?_⟩⟩
        exact HJ.out _ _ _ none HG.out (grown_of ((Below.refl _ W3).alloc (Nat.le_refl _) _)) (fun r e => by cases e)
      | some x =>
        rw [hx] at hl
        unfold gotT Th.v at hl
        dsimp only at hl
        have hxp := (HF.out.fits x (look_mem hx).1).par
        have hst := hide (way_step HF.out hx)
        gi_wp2_with fail
        go_roundw
        case rel =>
          refine ⟨⟨x.par, hxp⟩, pre ++ [j], rfl, ?_, HJ.out _ _ _ none HG.out (grown_of ((Below.refl _ W3).alloc (Nat.le_refl _) _)) (fun r e => by cases e), HB.out.trans (Kps.of ((Below.refl _ W3).alloc (Nat.le_refl _) _) |>.mono HB.out.1), by simp; omega⟩
          have := HP.out.1
          rw [hst.out] at this
          simpa using this
        case measure =>
          show (way t x.par).length < (way t j.1).length
          rw [hst.out]; simp
    · clear hR hy
      gi_wp2_with fail
      go_end0
      refine ⟨⟨_, rfl⟩, .inr ⟨pre ++ [j], ?_, hJx3⟩⟩
      rw [← HP.out.1]
      cases hx : Mov.look t j.1 with
      | none => rw [way_end hx]; simp
      | some x => rw [way_step HF.out hx]; exact ⟨way t x.par, by simp⟩
end Go.Proofs.YtngikahadkoliaaGreatDoor
/- Folders within folders, one deleted, and moved again: reckoned; of no program. -/
namespace Go.Mov
open Go.RowKit Go.Opn
def crE (i : Int) : En := ⟨⟨1, ⟨i, 0⟩, 16 * i, 16 * (i - 1), ⟨#[97]⟩, true, ⟨#[]⟩, 0⟩, ⟨#[104]⟩⟩
def delE (a : Int) : En := ⟨⟨3, ⟨50, 0⟩, a, 0, ⟨#[]⟩, false, ⟨#[]⟩, 0⟩, ⟨#[104]⟩⟩
def movE (a : Int) : En := ⟨⟨2, ⟨60, 0⟩, a, 0, ⟨#[98]⟩, false, ⟨#[]⟩, 0⟩, ⟨#[104]⟩⟩
def crs (n : Nat) : List En := (List.range n).map fun (j : Nat) => crE ((j : Int) + 1)
theorem crs_next (n : Nat) : crs (n + 1) = crs n ++ [crE ((n : Int) + 1)] := by unfold crs; rw [List.range_succ, List.map_append]; rfl
def tr2 (n : Nat) (a : Int) : Ths := ths [] (addsU (crs n ++ [delE a])).1
def tr3 (n : Nat) (a : Int) : Ths := ths [] (addsU (crs n ++ [delE a] ++ [movE a])).1
/-- All that is asked behind the deletion. -/
def ok2 (n : Nat) (a : Int) : Bool :=
  ((List.range n).all fun (j : Nat) => below (tr2 n a).length (tr2 n a) (16 * ((j : Int) + 1)) a == decide (a ≤ 16 * ((j : Int) + 1)) && decide (1 ≤ deepIn (wayUp (tr2 n a).length (tr2 n a) (16 * ((j : Int) + 1))) 0)) &&
  (match look (tr2 n a) a with | some x => x.par == 1 | none => false) && (kidsOf (tr2 n a) 1).length == 1
/-- All that is asked behind the move. -/
def ok3 (n : Nat) (a : Int) : Bool :=
  (match look (tr3 n a) a with | some x => x.par == 0 && decide (x.name.data = #[98]) | none => false) && (kidsOf (tr3 n a) 1).length == 0 && !(tr3 n a).isEmpty
theorem ok_all : ((List.range 8).all fun (n : Nat) => (List.range (n + 1)).all fun (p : Nat) => ok2 (n + 1) (16 * ((p : Int) + 1)) && ok3 (n + 1) (16 * ((p : Int) + 1))) = true := by decide +kernel
theorem ok_at {n p : Nat} (hn : n ≤ 7) (hp : p ≤ n) : ok2 (n + 1) (16 * ((p : Int) + 1)) = true ∧ ok3 (n + 1) (16 * ((p : Int) + 1)) = true := by
  have h1 := List.all_eq_true.1 ok_all n (by simp; omega)
  have h2 := List.all_eq_true.1 h1 p (by simp; omega)
  simpa using h2
theorem crE_fits {i : Int} (h1 : 1 ≤ i) (h2 : i ≤ 100) : (crE i).Fits :=
  ⟨⟨⟨by show _ ≤ (1 : Int); decide, by show (1 : Int) ≤ _; decide⟩, ⟨by show (0 : Int) ≤ i; omega, by show i ≤ _; omega, by show _ ≤ (0 : Int); decide, by show (0 : Int) ≤ _; decide⟩, ⟨by show (0 : Int) ≤ 16 * i; omega, by show 16 * i ≤ _; omega⟩, ⟨by show (0 : Int) ≤ 16 * (i - 1); omega, by show 16 * (i - 1) ≤ _; omega⟩, by show (1 : Nat) ≤ _; decide, by show (0 : Nat) ≤ _; decide, ⟨by show _ ≤ (0 : Int); decide, by show (0 : Int) ≤ _; decide⟩⟩, by show (1 : Nat) ≤ _; decide⟩
theorem delE_fits {a : Int} (h1 : 0 ≤ a) (h2 : a ≤ 1000) : (delE a).Fits :=
  ⟨⟨⟨by show _ ≤ (3 : Int); decide, by show (3 : Int) ≤ _; decide⟩, ⟨by show (0 : Int) ≤ 50; decide, by show (50 : Int) ≤ _; decide, by show _ ≤ (0 : Int); decide, by show (0 : Int) ≤ _; decide⟩, ⟨h1, by show a ≤ _; omega⟩, ⟨by show (0 : Int) ≤ 0; decide, by show (0 : Int) ≤ _; decide⟩, by show (0 : Nat) ≤ _; decide, by show (0 : Nat) ≤ _; decide, ⟨by show _ ≤ (0 : Int); decide, by show (0 : Int) ≤ _; decide⟩⟩, by show (1 : Nat) ≤ _; decide⟩
theorem movE_fits {a : Int} (h1 : 0 ≤ a) (h2 : a ≤ 1000) : (movE a).Fits :=
  ⟨⟨⟨by show _ ≤ (2 : Int); decide, by show (2 : Int) ≤ _; decide⟩, ⟨by show (0 : Int) ≤ 60; decide, by show (60 : Int) ≤ _; decide, by show _ ≤ (0 : Int); decide, by show (0 : Int) ≤ _; decide⟩, ⟨h1, by show a ≤ _; omega⟩, ⟨by show (0 : Int) ≤ 0; decide, by show (0 : Int) ≤ _; decide⟩, by show (1 : Nat) ≤ _; decide, by show (0 : Nat) ≤ _; decide, ⟨by show _ ≤ (0 : Int); decide, by show (0 : Int) ≤ _; decide⟩⟩, by show (1 : Nat) ≤ _; decide⟩
end Go.Mov
namespace Go.Proofs.YtngikahadkoliaaGreatDoor
open Go.RowKit Go.Opn Go.Stamp Go.MapInt Go.Mov Go.Shelf
variable {W v : World} {b : Nat} {S : Nat → Prop} {l : List En} {u : Int}
set_option maxRecDepth 100000 in
theorem Tw.fine (h : Tw W b S l u v) : Fine (Mov.ths [] l) := ths_fine Fine.nil h.fits
set_option maxRecDepth 100000 in
theorem Tw.len (h : Tw W b S l u v) : (Mov.ths [] l).length ≤ l.length := by have := ths_length (l := l) Fine.nil h.fits; simpa using this
set_option maxRecDepth 100000 in
theorem belowTw_any (h : Tw W b S l u v) (k o : Int) (hk : Num k) : Calls Tryz.prog 111 #[.pointer (some ⟨b, 0, none⟩), .int .u64 k, .int .u64 o] v fun e w' => e = .returned (.bool (below (ths [] l).length (ths [] l) k o)) ∧ Below v.heap.size v w' := by
  obtain ⟨mb, h1⟩ := h.ths
  exact below_any k o v h1 h.fine hk
end Go.Proofs.YtngikahadkoliaaGreatDoor
/- A region that draws its order, inside a round of a loop that goes over a function: what holds outside holds there; of no program. -/
namespace Go.RoundR
open Go.RowKit
variable {P : Program} {ops : Array Oper} {md : Region.Mode} {l n : Nat}
/-- What is asked where nothing but a normal end is allowed. -/
def Only (R : Act → World → Prop) : Exit → Act → World → Prop
  | .normal, a, w => R a w
  | _, _, _ => False
theorem rows_round {row : String} {args : Array Value} {w : World} {R : Value → World → Prop} (h : Rows P row args w R) : RowsIn (Fence.wide.inRound l) n P row args w R := fun c cs _ =>
  let ⟨v, w', r, s⟩ := h c cs
  ⟨v, w', r, stepsIn_wide.2 s⟩
theorem op_round {R : Act → World → Prop} {Q : Exit → Act → World → Prop} {i : Nat} {a : Act} {w : World} {K K' : Act → World → Prop} (hd : ∀ o, ops[i]? = some o → ∀ c, o.op ≠ .defer c) (hK : ∀ a w, K a w → K' a w) (h : wpOp P ops (Only R) i K a w) : wpOpIn (Fence.wide.inRound l) n P ops Q i K' a w := by
  unfold wpOp at h
  unfold wpOpIn
  cases ho : ops[i]? with
  | none => simp only [ho] at h ⊢; exact hK _ _ h
  | some o =>
    simp only [ho] at h ⊢
    by_cases hw : Region.wanted o (yielded ops a.tmps) = true
    · rw [if_pos hw] at h
      rw [if_pos hw]
      rcases h with h | ⟨_, _, _, h⟩
      · refine ⟨fun _ _ => trivial, ?_⟩
        rw [Fence.inRound_round, Oper.semAt_some l a.eval o (hd o ho)]
        unfold Oper.wp at h
        generalize (execOp a.eval o).run P w = r at h
        cases r with
        | halt x w' => cases x <;> exact False.elim h
        | ok x w' =>
          cases x with
          | value u => exact hK _ _ h
          | skip => exact hK _ _ h
          | defer d => exact hK _ _ h
          | enter f args =>
            refine ⟨fun h => (by cases h), (CallsIn.inRound l (callsIn_wide.2 h)).mono ?_⟩
            intro e w'' he
            cases e with
            | returned v => exact hK _ _ he
            | panicked c => exact False.elim he
            | outgrown => obtain ⟨_, _, he⟩ := he; exact False.elim he
          | row r args => exact ⟨fun h => (by cases h), (rows_round h).mono fun v w'' he => hK _ _ he⟩
          | _ => exact False.elim h
      · exact False.elim h
    · rw [if_neg hw] at h
      rw [if_neg hw]
      exact ⟨fun _ _ => trivial, hK _ _ h⟩
theorem any_round {R : Act → World → Prop} {Q : Exit → Act → World → Prop} (hd : ∀ (i : Nat) (o : Oper), ops[i]? = some o → ∀ c, o.op ≠ .defer c) (hR : ∀ a w, R a w → Q .normal a w) :
    ∀ (f : Nat) (listed : Array Bool) (a : Act) (w : World), wpAny P md ops (Only R) f listed a w → wpAnyIn (Fence.wide.inRound l) n P md ops Q f listed a w
  | 0, _, a, w, h => ⟨h.1, hR a w h.2⟩
  | f + 1, _, a, w, h => ⟨fun h0 => hR a w (h.1 h0), fun i hi => op_round (hd i) (fun a' w' h' => any_round hd hR f _ a' w' h') (h.2 i hi)⟩
/-- Some operations taken first (they yield what they yield in every world that meets S), the others forced: inside a round. -/
theorem held {id : Nat} {l' : List Oper} {Q : Exit → Act → World → Prop} {a : Act} {w : World} (S : World → Prop) (r : List (Bool × Nat)) (hm : P.follows .mixedOrders = true) (hd : (l'.all fun o => match o.op with | .defer _ => false | _ => true) = true) (hB : (Region.noSelect l'.toArray && HeldO.fitB l'.toArray r (Array.replicate l'.length false)) = true) (hlen : r.length = l'.length)
    (hS : S w.drew) (h : HeldO.wp P l'.toArray S (Only fun a w => Q .normal a w) r a w.drew) : (Code.region id l'.toArray true).wpIn (Fence.wide.inRound l) n P Q a w := by
  refine wpIn_region_any hm ?_
  refine any_round (R := fun a w => Q .normal a w) (fun i o ho c e => ?_) (fun _ _ h => h) _ _ _ _ ?_
  · have hmem : o ∈ l' := List.mem_of_getElem? (i := i) (by simpa using ho)
    have := List.all_eq_true.1 hd o hmem
    rw [e] at this
    cases this
  · rw [Bool.and_eq_true] at hB
    have := HeldO.anyH hB.1 (S := S) (Q := Only fun a w => Q .normal a w) (fun d v c a w h => h) r _ a _ hB.2 hS h
    rw [hlen] at this
    have h2 := wpAny_of_held _ _ _ _ this
    simpa using h2
/-- Some taken first, then two in either order, then the rest: inside a round. -/
theorem held2 {id : Nat} {l' : List Oper} {Q : Exit → Act → World → Prop} {a : Act} {w : World} (S : World → Prop) (r : List Nat) (i j : Nat) (r2 : List (Bool × Nat)) (hm : P.follows .mixedOrders = true) (hd : (l'.all fun o => match o.op with | .defer _ => false | _ => true) = true)
    (hB : (Region.noSelect l'.toArray && HeldO.takesB l'.toArray i j r2 r (Array.replicate l'.length false)) = true) (hlen : r.length + 2 + r2.length = l'.length) (hS : S w.drew)
    (h : HeldO.takes P l'.toArray S (fun a' w' => HeldO.one P l'.toArray S (Only fun a w => Q .normal a w) i (HeldO.one P l'.toArray S (Only fun a w => Q .normal a w) j (HeldO.wp P l'.toArray S (Only fun a w => Q .normal a w) r2)) a' w' ∧ HeldO.one P l'.toArray S (Only fun a w => Q .normal a w) j (HeldO.one P l'.toArray S (Only fun a w => Q .normal a w) i (HeldO.wp P l'.toArray S (Only fun a w => Q .normal a w) r2)) a' w') r a w.drew) : (Code.region id l'.toArray true).wpIn (Fence.wide.inRound l) n P Q a w := by
  refine wpIn_region_any hm ?_
  refine any_round (R := fun a w => Q .normal a w) (fun i o ho c e => ?_) (fun _ _ h => h) _ _ _ _ ?_
  · have hmem : o ∈ l' := List.mem_of_getElem? (i := i) (by simpa using ho)
    have := List.all_eq_true.1 hd o hmem
    rw [e] at this
    cases this
  · rw [Bool.and_eq_true] at hB
    have := HeldO.any_takes hB.1 (S := S) (Q := Only fun a w => Q .normal a w) (fun d v c a w h => h) r _ a _ hB.2 hS h
    rw [show r.length + (r2.length + 1 + 1) = l'.length by omega] at this
    have h2 := wpAny_of_held _ _ _ _ this
    simpa using h2
/-- The same outside a round, whatever else is asked. -/
theorem held_out {id : Nat} {l' : List Oper} {Q : Exit → Act → World → Prop} {a : Act} {w : World} (S : World → Prop) (r : List (Bool × Nat)) (hm : P.follows .mixedOrders = true) (hB : (Region.noSelect l'.toArray && HeldO.fitB l'.toArray r (Array.replicate l'.length false)) = true) (hlen : r.length = l'.length)
    (hS : S w.drew) (h : HeldO.wp P l'.toArray S (Only fun a w => Q .normal a w) r a w.drew) : (Code.region id l'.toArray true).wp P Q a w := by
  refine wp_mono (HeldO.region S r hm hB hlen (fun _ _ _ _ _ h => h) hS h) fun e a w h => ?_
  cases e <;> first | exact h | exact False.elim h
end Go.RoundR
