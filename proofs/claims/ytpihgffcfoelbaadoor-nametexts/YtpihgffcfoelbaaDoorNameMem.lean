/- A folder of names in memory: which are taken, where the numbers of a row go on; what its calls turn. -/
import Derived.Test.YtpihgffcfoelbaaDoorNameFix
import Derived.Test.YtpihgffcfoelbaaDoorMapKey
namespace Go.Names
open Go.RowKit
/-- Where a folder lies. -/
structure Fo where
  fb : Nat
  tb : Nat
  nb : Nat
/-- Only the folder's two maps have turned. -/
structure FoTn (F : Fo) (w w' : World) : Prop where
  os : w'.os = w.os
  tape : w'.tape = w.tape
  output : w'.output = w.output
  size : w.heap.size ≤ w'.heap.size
  block : ∀ k, k < w.heap.size → k ≠ F.tb → k ≠ F.nb → w'.heap[k]? = w.heap[k]?
theorem FoTn.refl (F : Fo) (w : World) : FoTn F w w := ⟨rfl, rfl, rfl, Nat.le_refl _, fun _ _ _ _ => rfl⟩
theorem FoTn.trans {F : Fo} {w w' w'' : World} (h : FoTn F w w') (k : FoTn F w' w'') : FoTn F w w'' :=
  ⟨k.os.trans h.os, k.tape.trans h.tape, k.output.trans h.output, Nat.le_trans h.size k.size, fun i hi h1 h2 => (k.block i (Nat.lt_of_lt_of_le hi h.size) h1 h2).trans (h.block i hi h1 h2)⟩
theorem FoTn.of_below {F : Fo} {w w' : World} {B : Nat} (h : Below B w w') (hB : w.heap.size ≤ B) : FoTn F w w' := ⟨h.os, h.tape, h.output, h.size, fun k hk _ _ => h.block k (Nat.lt_of_lt_of_le hk hB)⟩
theorem FoTn.of_taken {F : Fo} {w w' : World} (h : w.grownBy w' (some F.tb)) : FoTn F w w' := ⟨h.os, h.tape, h.output, h.size, fun k hk h1 _ => h.block k hk fun e => h1 (by cases e; rfl)⟩
theorem FoTn.of_next {F : Fo} {w w' : World} (h : w.grownBy w' (some F.nb)) : FoTn F w w' := ⟨h.os, h.tape, h.output, h.size, fun k hk _ h2 => h.block k hk fun e => h2 (by cases e; rfl)⟩
theorem FoTn.below {F : Fo} {w w' : World} {base : Nat} (h : FoTn F w w') (h1 : base ≤ F.tb) (h2 : base ≤ F.nb) (hs : base ≤ w.heap.size) : Below base w w' :=
  ⟨h.os, h.tape, h.output, h.size, fun k hk => h.block k (by omega) (by omega) (by omega)⟩
abbrev Key := ByteArray × Nat
def rowV (x : Key) : Value := .agg #[.string x.1, .int .i64 (x.2 : Int)]
theorem rowV_inj (x y : Key) (h : rowV x = rowV y) : x = y := by
  obtain ⟨a, n⟩ := x
  obtain ⟨b, m⟩ := y
  simp only [rowV, Value.agg.injEq, Array.mk.injEq, List.cons.injEq, Value.string.injEq, Value.int.injEq, true_and, and_true] at h
  obtain ⟨rfl, h⟩ := h
  rw [show n = m by omega]
/-- A text is one of those that are taken. -/
def tkn (T : List Bs) (s : ByteArray) : Option Unit := if s.data.toList ∈ T then some () else none
/-- The numbers of a row that are passed by are taken. -/
def OkN (T : List Bs) (nx : Key → Option Int) : Prop := ∀ c d v, nx (c, d) = some v → (∀ n : Nat, 10 ^ (d - 1) ≤ n → (n : Int) < v → c.data.toList ++ 126 :: dig n ∈ T) ∧ v ≤ (10 : Int) * (10 ^ (d - 1) : Nat)
theorem OkN.none (T : List Bs) : OkN T (fun _ => .none) := fun _ _ _ h => by cases h
theorem OkN.more {T : List Bs} {nx : Key → Option Int} (h : OkN T nx) (x : List Bs) : OkN (T ++ x) nx := fun c d v hv =>
  ⟨fun n h1 h2 => List.mem_append_left _ ((h c d v hv).1 n h1 h2), (h c d v hv).2⟩
theorem OkN.set {T : List Bs} {nx : Key → Option Int} (h : OkN T nx) (c : ByteArray) (d : Nat) (v : Int) (h1 : ∀ n : Nat, 10 ^ (d - 1) ≤ n → (n : Int) < v → c.data.toList ++ 126 :: dig n ∈ T) (h2 : v ≤ (10 : Int) * (10 ^ (d - 1) : Nat)) : OkN T (fun t => if t = (c, d) then some v else nx t) := by
  intro c' d' v' hv
  by_cases e : ((c', d') : Key) = (c, d)
  · simp only [e, if_true] at hv
    cases hv
    cases e
    exact ⟨h1, h2⟩
  · simp only [e, if_false] at hv
    exact h c' d' v' hv
end Go.Names
namespace Go.Proofs.YtpihgffcfoelbaaDoor
open Go.RowKit Go.Names Go.MapFun Go.Maps
theorem rowUnder : Tryd.prog.underlying 46 = some (.map 60 3) := by kernel_rfl
theorem tknUnder : Tryd.prog.underlying 45 = some (.map 9 57) := by kernel_rfl
theorem nLaid : laidOutB Tryd.prog = true := by kernel_rfl
theorem rowLt : 60 < Tryd.prog.types.size := of_decide_eq_true (by kernel_rfl)
theorem rowWide : (match Tryd.prog.underlying 60 with | some (.array _ _) | some (.struct _) => true | _ => false) = true := by kernel_rfl
theorem rowDeep : Tryd.prog.keyTypeAt 3 60 = true := by kernel_rfl
theorem rowKeyed : Keyed Tryd.prog 60 := Keyed.of_law (deep_law_laid nLaid (m := 3) (by omega) rowLt rowDeep rowWide)
theorem strKeyed : Keyed Tryd.prog 9 := string_keyed (by kernel_rfl)
theorem rowCells : Tryd.prog.cellsOf 60 = 2 := by kernel_rfl
theorem rowType : Tryd.prog.keyType 60 = true := by kernel_rfl
theorem rowKey (c : ByteArray) (d : Nat) (hc : c.size ≤ maxLen) (hd : d ≤ 1000) : ∃ l, keyOf Tryd.prog 60 (rowV (c, d)) = some l := by
  have hf : (rowV (c, d)).formed Tryd.prog 60 = true := by
    simp [rowV, Value.formed, Tryd.underlying60, rowCells]
  have hsz : Tryd.prog.types.size = 100 := by kernel_rfl
  have hw : (Lit.int .i64 (d : Int)).wf = true := by
    have h1 : IntKind.i64.min = -9223372036854775808 := rfl
    have h2 : IntKind.i64.max = 9223372036854775807 := rfl
    simp only [Lit.wf, h1, h2, Bool.and_eq_true, decide_eq_true_eq]
    omega
  unfold keyOf
  rw [Tryd.underlying60]
  simp only [rowType, hf, Bool.and_self, if_true, hsz]
  have h9 : Tryd.prog.underlying 9 = some .string := by kernel_rfl
  have h3 : Tryd.prog.underlying 3 = some (.int .i64) := by kernel_rfl
  have c9 : Tryd.prog.cellsOf 9 = 1 := by kernel_rfl
  have c3 : Tryd.prog.cellsOf 3 = 1 := by kernel_rfl
  have hcs : (rowV (c, d)).cells.toList = [.string c, .int .i64 (d : Int)] := rfl
  rw [hcs]
  have hk : ∀ m, Tryd.prog.keyLits (m + 2) 60 [.string c, .int .i64 (d : Int)] = some [.string c.data.toList, .int .i64 (d : Int)] := by
    intro m
    simp [Program.keyLits, Tryd.underlying60, rowCells, h9, h3, c9, c3, hw, hc]
  have e : 100 + 1 = (100 - 1) + 2 := rfl
  rw [e, hk]
  exact ⟨_, rfl⟩
end Go.Proofs.YtpihgffcfoelbaaDoor
