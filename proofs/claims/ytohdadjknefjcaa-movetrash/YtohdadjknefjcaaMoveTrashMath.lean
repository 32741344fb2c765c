/- Folders within folders, one deleted, and moved again: reckoned; of no program. -/
import Derived.Test.YtohdadjknefjcaaMoveTw
import Derived.Test.YtohdadjknefjcaaMoveDeep
import Derived.Test.YtohdadjknefjcaaMoveKids
namespace Go.Mov
open Go.RowKit Go.Opn
def crE (i : Int) : En := ⟨⟨1, ⟨i, 0⟩, 16 * i, 16 * (i - 1), ⟨#[97]⟩, true, ⟨#[]⟩, 0⟩, ⟨#[104]⟩⟩
def delE (a : Int) : En := ⟨⟨3, ⟨50, 0⟩, a, 0, ⟨#[]⟩, false, ⟨#[]⟩, 0⟩, ⟨#[104]⟩⟩
def movE (a : Int) : En := ⟨⟨2, ⟨60, 0⟩, a, 0, ⟨#[98]⟩, false, ⟨#[]⟩, 0⟩, ⟨#[104]⟩⟩
def crs (n : Nat) : List En := (List.range n).map fun (j : Nat) => crE ((j : Int) + 1)
theorem crs_next (n : Nat) : crs (n + 1) = crs n ++ [crE ((n : Int) + 1)] := by unfold crs; rw [List.range_succ, List.map_append]; rfl
def tr2 (n : Nat) (a : Int) : Ths := ths [] (addsU (crs n ++ [delE a])).1
def tr3 (n : Nat) (a : Int) : Ths := ths [] (addsU (crs n ++ [delE a] ++ [movE a])).1
/-- All that is asked behind the deletion. -/
def ok2 (n : Nat) (a : Int) : Bool :=
  ((List.range n).all fun (j : Nat) => below (tr2 n a).length (tr2 n a) (16 * ((j : Int) + 1)) a == decide (a ≤ 16 * ((j : Int) + 1)) && decide (1 ≤ deepIn (wayUp (tr2 n a).length (tr2 n a) (16 * ((j : Int) + 1))) 0)) &&
  (match look (tr2 n a) a with | some x => x.par == 1 | none => false) && (kidsOf (tr2 n a) 1).length == 1
/-- All that is asked behind the move. -/
def ok3 (n : Nat) (a : Int) : Bool :=
  (match look (tr3 n a) a with | some x => x.par == 0 && decide (x.name.data = #[98]) | none => false) && (kidsOf (tr3 n a) 1).length == 0 && !(tr3 n a).isEmpty
theorem ok_all : ((List.range 8).all fun (n : Nat) => (List.range (n + 1)).all fun (p : Nat) => ok2 (n + 1) (16 * ((p : Int) + 1)) && ok3 (n + 1) (16 * ((p : Int) + 1))) = true := by decide +kernel
theorem ok_at {n p : Nat} (hn : n ≤ 7) (hp : p ≤ n) : ok2 (n + 1) (16 * ((p : Int) + 1)) = true ∧ ok3 (n + 1) (16 * ((p : Int) + 1)) = true := by
  have h1 := List.all_eq_true.1 ok_all n (by simp; omega)
  have h2 := List.all_eq_true.1 h1 p (by simp; omega)
  simpa using h2
theorem crE_fits {i : Int} (h1 : 1 ≤ i) (h2 : i ≤ 100) : (crE i).Fits :=
  ⟨⟨⟨by show _ ≤ (1 : Int); decide, by show (1 : Int) ≤ _; decide⟩, ⟨by show (0 : Int) ≤ i; omega, by show i ≤ _; omega, by show _ ≤ (0 : Int); decide, by show (0 : Int) ≤ _; decide⟩, ⟨by show (0 : Int) ≤ 16 * i; omega, by show 16 * i ≤ _; omega⟩, ⟨by show (0 : Int) ≤ 16 * (i - 1); omega, by show 16 * (i - 1) ≤ _; omega⟩, by show (1 : Nat) ≤ _; decide, by show (0 : Nat) ≤ _; decide, ⟨by show _ ≤ (0 : Int); decide, by show (0 : Int) ≤ _; decide⟩⟩, by show (1 : Nat) ≤ _; decide⟩
theorem delE_fits {a : Int} (h1 : 0 ≤ a) (h2 : a ≤ 1000) : (delE a).Fits :=
  ⟨⟨⟨by show _ ≤ (3 : Int); decide, by show (3 : Int) ≤ _; decide⟩, ⟨by show (0 : Int) ≤ 50; decide, by show (50 : Int) ≤ _; decide, by show _ ≤ (0 : Int); decide, by show (0 : Int) ≤ _; decide⟩, ⟨h1, by show a ≤ _; omega⟩, ⟨by show (0 : Int) ≤ 0; decide, by show (0 : Int) ≤ _; decide⟩, by show (0 : Nat) ≤ _; decide, by show (0 : Nat) ≤ _; decide, ⟨by show _ ≤ (0 : Int); decide, by show (0 : Int) ≤ _; decide⟩⟩, by show (1 : Nat) ≤ _; decide⟩
theorem movE_fits {a : Int} (h1 : 0 ≤ a) (h2 : a ≤ 1000) : (movE a).Fits :=
  ⟨⟨⟨by show _ ≤ (2 : Int); decide, by show (2 : Int) ≤ _; decide⟩, ⟨by show (0 : Int) ≤ 60; decide, by show (60 : Int) ≤ _; decide, by show _ ≤ (0 : Int); decide, by show (0 : Int) ≤ _; decide⟩, ⟨h1, by show a ≤ _; omega⟩, ⟨by show (0 : Int) ≤ 0; decide, by show (0 : Int) ≤ _; decide⟩, by show (1 : Nat) ≤ _; decide, by show (0 : Nat) ≤ _; decide, ⟨by show _ ≤ (0 : Int); decide, by show (0 : Int) ≤ _; decide⟩⟩, by show (1 : Nat) ≤ _; decide⟩
end Go.Mov
namespace Go.Proofs.Ytohdadjknefjcaa
open Go.RowKit Go.Opn Go.Stamp Go.MapInt Go.Mov Go.Shelf
variable {W v : World} {b : Nat} {S : Nat → Prop} {l : List En} {u : Int}
theorem Tw.fine (h : Tw W b S l u v) : Fine (Mov.ths [] l) := ths_fine Fine.nil h.fits
theorem Tw.len (h : Tw W b S l u v) : (Mov.ths [] l).length ≤ l.length := by have := ths_length (l := l) Fine.nil h.fits; simpa using this
theorem belowTw_any (h : Tw W b S l u v) (k o : Int) (hk : Num k) : Calls Try.prog 27 #[.pointer (some ⟨b, 0, none⟩), .int .u64 k, .int .u64 o] v fun e w' => e = .returned (.bool (below (ths [] l).length (ths [] l) k o)) ∧ Below v.heap.size v w' := by
  obtain ⟨mb, h1⟩ := h.ths
  exact below_any k o v h1 h.fine hk
theorem deepTw_any (h : Tw W b S l u v) (k : Int) (hk : Num k) (hl : l.length ≤ 100000) : Calls Try.prog 29 #[.pointer (some ⟨b, 0, none⟩), .int .u64 k] v fun e w' => e = .returned (.int .i64 (deepIn (way (ths [] l) k) 0)) ∧ Below v.heap.size v w' := by
  obtain ⟨mb, h1⟩ := h.ths
  exact deep_any k v h1 h.fine hk (by have := h.len; omega)
theorem kidsTw_few (h : Tw W b S l u v) (k : Int) (hc : (kidsOf (ths [] l) k).length ≤ 1) (hne : ths [] l ≠ []) : Calls Try.prog 26 #[.pointer (some ⟨b, 0, none⟩), .int .u64 k] v fun e w' => (∃ a c, e = .returned (.slice a (kidsOf (ths [] l) k).length c)) ∧ Below v.heap.size v w' := by
  obtain ⟨mb, h1⟩ := h.ths
  cases mb with
  | none =>
    rcases h1.map with ⟨_, h2⟩ | ⟨b', h2, _⟩
    · exact absurd h2 hne
    · cases h2
  | some m => exact kids_few k v h1 hc
end Go.Proofs.Ytohdadjknefjcaa
