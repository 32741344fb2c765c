/- A string that is copied over a row of bytes, as far as the row goes; the noughts behind it; of no program. -/
import Derived.Test.YtdcgemaaohldmaaWireNumber
import Derived.Lib.BufferWrite
namespace Go.Wire
open Go.RowKit Go.Lib
theorem run_copy_row_min {P : Program} (w : World) (dT sT ty elem : TypeId) (g dLen dCap m : Nat) (s : ByteArray) (cur : Array Value) (t : TypeId)
    (hu : P.underlying dT = some (.slice elem)) (hs : (P.info? elem).map (·.size) = some 1) (hg : w.heap[g]? = some (.cells cur t (0, 0))) (hm : min s.size dLen = m) (hfit : m ≤ cur.size) :
    (Builtin.copy_ #[dT, sT] ty #[.slice (some ⟨g, 0, none⟩) dLen dCap, .string s]).run P w =
      .ok (goInt m) (w.setRow g (byteCells (s.data.toList.take m) ++ cur.toList.drop m).toArray) := by
  have hlen : (byteCells (s.data.toList.take m)).length = m := by
    rw [byteCells_length, List.length_take, ← size_eq]; omega
  have hst := run_storeCells_at P g 0 t (byteCells (s.data.toList.take m)) 0 cur w hg (by rw [hlen]; simpa using hfit) (byteCells_one _)
  have hmin : Nat.min s.size dLen = m := hm
  have htk : List.take m (List.map (fun b : UInt8 => Value.int IntKind.u8 (b.toNat : Int)) s.data.toList) = byteCells (s.data.toList.take m) := by
    rw [← List.map_take]; rfl
  rw [hlen] at hst
  simp only [Nat.add_zero, List.take_zero, List.nil_append, Nat.zero_add] at hst
  cases hq : P.info? elem with
  | none => simp [hq] at hs
  | some i =>
    simp [Builtin.copy_, run_underlying hu, Builtin.lenOf, Builtin.firstCells, sizeOf, typeInfo, hq, hmin]
    rw [htk, hst]
    simp [Result.andThen]
theorem wpList_copy_row_min {P : Program} {w : World} {ops : Array Oper} {rest : List Oper} {o : Oper} {a : Act} {Q : Exit → Act → World → Prop} (hgd : o.guard = none) (d s : Operand) (dT sT : TypeId)
    (ho : o.op = .call { callee := .builtin .copy, args := #[d, s], argTypes := #[dT, sT] }) (elem : TypeId) (hu : P.underlying dT = some (.slice elem)) (hsz : (P.info? elem).map (·.size) = some 1)
    (g dLen dCap m : Nat) (x : ByteArray) (hd : a.eval d = .slice (some ⟨g, 0, none⟩) dLen dCap) (hs : a.eval s = .string x)
    (cur : Array Value) (t : TypeId) (hg : w.heap[g]? = some (.cells cur t (0, 0))) (hm : min x.size dLen = m) (hfit : m ≤ cur.size)
    (h : wpList P ops Q rest (a.put o.dst (goInt m)) (w.setRow g (byteCells (x.data.toList.take m) ++ cur.toList.drop m).toArray)) : wpList P ops Q (o :: rest) a w := by
  refine wpList_plain hgd fun K hK => ?_
  have hrun := run_copy_row_min (P := P) w dT sT o.type elem g dLen dCap m x cur t hu hsz hg hm hfit
  unfold Oper.wp
  simp [execOp, ho, resolve, invoke, builtin, hd, hs, hrun, Result.andThen]
  exact hK _ _ h
/-- A digest's bytes: cut at 32, or filled up. -/
def pad (l : List UInt8) : List UInt8 := l.take 32 ++ List.replicate (32 - l.length) 0
theorem pad_length (l : List UInt8) : (pad l).length = 32 := by
  simp [pad]; omega
def bcells (l : List UInt8) : Array Value := (byteCells l).toArray
def zeros32 : List UInt8 := List.replicate 32 0
theorem bcells_size (l : List UInt8) : (bcells l).size = l.length := by simp [bcells, byteCells]
theorem pad_row (s : ByteArray) (m : Nat) (hm : min s.size 32 = m) : (byteCells (s.data.toList.take m) ++ (bcells zeros32).toList.drop m).toArray = bcells (pad s.data.toList) := by
  have h1 : s.data.toList.length = s.size := by simp
  have h2 : s.data.toList.take m = s.data.toList.take 32 := by
    rcases Nat.le_total s.size 32 with h | h
    · rw [List.take_of_length_le (by omega), List.take_of_length_le (by omega)]
    · rw [← hm, Nat.min_eq_right h]
  have h3 : (byteCells zeros32).drop m = byteCells (List.replicate (32 - s.data.toList.length) 0) := by
    simp only [byteCells, zeros32, List.map_replicate, List.drop_replicate]
    congr 1
    omega
  unfold bcells pad
  rw [h2, byteCells_append, h3]
theorem bcells_has {base g : Nat} {w : World} {l : List UInt8} {e : TypeId} (hh : w.heap[g]? = some (.cells (bcells l) e (0, 0))) (hb : base ≤ g) : ByteRow.Has base w (.slice (some ⟨g, 0, none⟩) l.length l.length) l := by
  have hlt : g < w.heap.size := by
    rcases Nat.lt_or_ge g w.heap.size with h | h
    · exact h
    · rw [Array.getElem?_eq_none h] at hh; cases hh
  refine .inr ⟨g, l.length, rfl, hb, hlt, Nat.le_refl _, fun j c hj => ?_, fun j hj => ?_⟩
  · rw [cell_of_row _ _ _ _ _ _ hh]; simp [bcells, byteCells, hj, Sha.byteV]
  · exact ⟨by rw [cell_of_row _ _ _ _ _ _ hh, Array.getElem?_eq_getElem (by rw [bcells_size]; exact hj)]; rfl, frozen_of_row _ _ _ _ _ hh⟩
theorem below_row {B : Nat} {w w1 : World} (h : Below B w w1) {g : Nat} (hg : B ≤ g) (cs : Array Value) : Below B w (w1.setRow g cs) :=
  h.trans ⟨rfl, rfl, rfl, by simp, fun k hk => setRow_other _ _ _ _ (by omega)⟩
theorem pad_world {w W : World} {T : TypeId} {s : ByteArray} {m : Nat} (hm : min s.size 32 = m) (hW : (w.alloc (.cells (bcells zeros32) T (0, 0))).setRow w.heap.size (byteCells (s.data.toList.take m) ++ (bcells zeros32).toList.drop m).toArray = W) :
    ByteRow.Has w.heap.size W (.slice (some ⟨w.heap.size, 0, none⟩) 32 32) (pad s.data.toList) ∧ Below w.heap.size w W := by
  rw [pad_row s m hm] at hW
  subst hW
  have h1 := bcells_has (setRow_heap _ _ _ (bcells (pad s.data.toList)) _ _ (heap_alloc_new w (.cells (bcells zeros32) T (0, 0)))) (Nat.le_refl w.heap.size)
  rw [pad_length] at h1
  exact ⟨h1, below_row ((Below.refl _ _).alloc (Nat.le_refl _) _) (Nat.le_refl _) _⟩
end Go.Wire
