/- Several texts in one: WireBuilder, WireCopy, WireCount8, WireWriter, WireAll, WireSpare, WireTold. -/
import Derived.Test.YtkbboddibgfjbaaGreatDoorWireMid
import Derived.Lib.Builder
import Derived.Lib.MakeNoZero
import Derived.Laws.Externs
import Derived.Laws.IdiomCopy
import Derived.Lib.BufferWrite
import Derived.Laws.IdiomStrings
import Derived.Shelf.RegionOpenPlain
import Derived.Lib.UnsafeStr
/- Contracts of the library's strings.Builder where it is the one field of a writer: it is walked in the library's own text. -/
namespace Go.Wire
open Go.RowKit
/-- Block b is a writer of the bytes l. -/
def Wr (T B b : Nat) (l : List UInt8) (w : World) : Prop :=
  B ≤ b ∧ ∃ p v, (p = .pointer none ∨ p = .pointer (some ⟨b, 0, none⟩)) ∧ w.heap[b]? = some (.cells #[p, v] T (0, 0)) ∧ w.ownsRow B 5 1 v l.length (Lib.byteCells l) ∧ v.ownBlock ≠ some b ∧ (l = [] → v = .slice none 0 0)
theorem Wr.below {T B b : Nat} {l : List UInt8} {w w' : World} (h : Wr T B b l w) (k : Below w.heap.size w w') : Wr T B b l w' := by
  obtain ⟨hB, p, v, hp, hb, ho, hn, he⟩ := h
  have lt : ∀ {g : Nat} {o : Obj}, w.heap[g]? = some o → w'.heap[g]? = some o := fun {g o} h => (k.block g (by
    rcases Nat.lt_or_ge g w.heap.size with x | x
    · exact x
    · rw [Array.getElem?_eq_none x] at h; cases h)).trans h
  refine ⟨hB, p, v, hp, lt hb, ?_, hn, he⟩
  obtain ⟨h0, h1⟩ := ho
  refine ⟨h0, ?_⟩
  rcases h1 with h1 | ⟨g, cap, cur, h1, h2, h3, h4⟩
  · exact .inl h1
  · exact .inr ⟨g, cap, cur, h1, h2, lt h3, h4⟩
theorem Wr.fresh (T : Nat) (w : World) : Wr T w.heap.size w.heap.size [] (w.alloc (.cells #[.pointer none, .slice none 0 0] T (0, 0))) :=
  ⟨Nat.le_refl _, _, _, .inl rfl, heap_alloc_new _ _, World.ownsRow_nil _ _ _ _, (by intro h; cases h), fun _ => rfl⟩
end Go.Wire
namespace Go.Proofs.YtkbboddibgfjbaaGreatDoor
open Go.RowKit Go.Wire
theorem sizeBuilder : (Tryz.prog.info? 228).map (·.size) = some 2 := by kernel_rfl
theorem liesBuilder : liesAt Tryz.prog Tryz.prog.depth 230 (2 / Tryz.prog.cellsOf 230) 0 228 1 = true := by kernel_rfl
theorem underPB : Tryz.prog.underlying 226 = some (.pointer 228) := by kernel_rfl
theorem underUP : Tryz.prog.underlying 150 = some .unsafePointer := by kernel_rfl
theorem cells5 : Tryz.prog.cellsOf 5 = 1 := by kernel_rfl
theorem neB5 : (230 : TypeId) ≠ 5 := by decide
set_option maxHeartbeats 1000000 in
set_option maxRecDepth 100000 in
theorem copyCheck_used (b : Nat) (w : World) (h0 : w.cell? ⟨b, 0, none⟩ = some (.pointer (some ⟨b, 0, none⟩))) :
    Calls Tryz.prog 184 #[.pointer (some ⟨b, 0, none⟩)] w fun e w' => e = .returned (.tuple #[]) ∧ w' = w := by
  obtain ⟨j, hj, _⟩ := Option.map_eq_some_iff.1 sizeBuilder
  go_enter Tryz.func184, Tryz.ntmps184
  go_wp2
  rw [Lib.run_neq_ptr_same w _ underPB hj]
  go_wp2
  go_end0
  exact ⟨rfl, rfl⟩
set_option maxHeartbeats 1000000 in
set_option maxRecDepth 100000 in
theorem copyCheck_fresh (b : Nat) (w : World) (h0 : w.cell? ⟨b, 0, none⟩ = some (.pointer none)) (hsh : w.shape? b = some (230, 2)) (hfz : w.frozen? ⟨b, 0, none⟩ = false) :
    Calls Tryz.prog 184 #[.pointer (some ⟨b, 0, none⟩)] w fun e w' => e = .returned (.tuple #[]) ∧ w' = w.setCell ⟨b, 0, none⟩ (.pointer (some ⟨b, 0, none⟩)) := by
  obtain ⟨j, hj, hjs⟩ := Option.map_eq_some_iff.1 sizeBuilder
  go_enter Tryz.func184, Tryz.ntmps184
  go_wp2
  rw [Lib.run_to_unsafe w ⟨b, 0, none⟩ underPB underUP hj (by rw [hjs]; decide) hsh (Nat.zero_lt_succ 1)]
  simp only [Result.andThen]
  rw [Oper.upon_value]
  go_wp2
  rw [run_callFunc_extern Tryz.func191 (by kernel_rfl) (by kernel_rfl) (by kernel_rfl) (e := Extern.AbiNoEscape.same) (by kernel_rfl)]
  rw [Lib.run_noEscape]
  simp only [Result.andThen]
  rw [Oper.upon_value]
  go_wp2
  rw [Lib.run_from_unsafe w ⟨b, 0, none⟩ underUP underPB hj hsh liesBuilder]
  simp only [Result.andThen]
  rw [Oper.upon_value]
  go_wp2
  go_end0
  exact ⟨rfl, rfl⟩
theorem copyCheck_any (B b : Nat) (l : List UInt8) (w : World) (h : Wr 230 B b l w) :
    Calls Tryz.prog 184 #[.pointer (some ⟨b, 0, none⟩)] w fun e w' => e = .returned (.tuple #[]) ∧ (∃ v, w'.heap[b]? = some (.cells #[.pointer (some ⟨b, 0, none⟩), v] 230 (0, 0)) ∧ w'.ownsRow B 5 1 v l.length (Lib.byteCells l) ∧ v.ownBlock ≠ some b ∧ (l = [] → v = .slice none 0 0)) ∧ Below B w w' := by
  obtain ⟨hB, p, v, hp, hb, ho, hn, he⟩ := h
  have hat : Lib.BuilderAt 230 5 B b p (Lib.byteCells l) w := ⟨hB, v, hb, by rw [Lib.byteCells_length]; exact ho, hn⟩
  rcases hp with rfl | rfl
  · refine (copyCheck_fresh b w hat.cell0 hat.shape hat.frozen0).mono ?_
    rintro e w' ⟨rfl, rfl⟩
    have hb' : (w.setCell ⟨b, 0, none⟩ (.pointer (some ⟨b, 0, none⟩))).heap[b]? = some (.cells #[.pointer (some ⟨b, 0, none⟩), v] 230 (0, 0)) := by rw [heap_setCell_same _ _ _ _ _ _ hb]; rfl
    obtain ⟨-, v', h1, h2, h3⟩ := hat.used (.pointer (some ⟨b, 0, none⟩))
    rw [hb'] at h1
    obtain rfl : v = v' := by simpa using h1
    rw [Lib.byteCells_length] at h2
    exact ⟨rfl, ⟨v, hb', h2, h3, he⟩, (Below.refl B w).setCell (p := ⟨b, 0, none⟩) hB _⟩
  · refine (copyCheck_used b w hat.cell0).mono ?_
    rintro e w' ⟨rfl, rfl⟩
    exact ⟨rfl, ⟨v, hb, ho, hn, he⟩, Below.refl B _⟩
set_option maxHeartbeats 2000000 in
set_option maxRecDepth 100000 in
theorem writeString_any (B b : Nat) (l : List UInt8) (s : ByteArray) (w : World) (h : Wr 230 B b l w) (hlen : l.length + s.size ≤ 140737488355328) (hBw : B ≤ w.heap.size) :
    Calls Tryz.prog 176 #[.pointer (some ⟨b, 0, none⟩), .string s] w fun e w' => e = .returned (.tuple #[.int .i64 s.size, .nilIface]) ∧ Wr 230 B b (l ++ s.data.toList) w' ∧ Below B w w' := by
  have hB := h.1
  obtain ⟨i0, hi, hz0, hz1, hz2⟩ := info_parts info5
  go_enter Tryz.func176, Tryz.ntmps176
  go_wp2_with (go_at_call 184; refine (copyCheck_any B b l _ h).mono ?_)
  rintro e w1 ⟨rfl, ⟨v, hbk, hown, hne, hnil⟩, hb1⟩
  have c0 : w1.cell? ⟨b, 0, none⟩ = some (.pointer (some ⟨b, 0, none⟩)) := by rw [Lib.cell_of_heap hbk]; rfl
  have c1 : w1.cell? ⟨b, 1, none⟩ = some v := by rw [Lib.cell_of_heap hbk]; rfl
  go_wp2_with (at_builtin; refine Lib.wpList_append_own_string _ rfl _ _ 44 9 rfl B 5 i0 underB under9 hi hz0 hz1 hz2 _ _ _ rfl hown s rfl ?c3 ?c4 ?c5 ?_)
  case c3 => unfold maxLen; omega
  case c4 => omega
  case c5 => have := hb1.size; omega
  intro v' w2 hown' hgrow hiff
  have hlt : b < w1.heap.size := by
    rcases Nat.lt_or_ge b w1.heap.size with h' | h'
    · exact h'
    · simp [Array.getElem?_eq_none h'] at hbk
  have hb2 : w2.heap[b]? = some (.cells #[.pointer (some ⟨b, 0, none⟩), v] 230 (0, 0)) := by
    rw [hgrow.block b hlt (fun e => hne e.symm)]
    exact hbk
  have d0 : w2.cell? ⟨b, 0, none⟩ = some (.pointer (some ⟨b, 0, none⟩)) := by rw [Lib.cell_of_heap hb2]; rfl
  have d1 : w2.cell? ⟨b, 1, none⟩ = some v := by rw [Lib.cell_of_heap hb2]; rfl
  have f1 : w2.frozen? ⟨b, 1, none⟩ = false := Lib.frozen_of_heap hb2 1
  have HI : Hid (v' = .slice none 0 0 ↔ v = .slice none 0 0 ∧ s = ByteArray.empty) := hiff
  have HV : Hid (l = [] → v = .slice none 0 0) := hnil
  clear hiff hnil
  obtain ⟨ao, n', cap, rfl⟩ : ∃ ao n' cap, v' = .slice ao n' cap := by
    rcases hown'.2 with ⟨hv, _⟩ | ⟨g, cap, cur, hv, _⟩
    · exact ⟨_, _, _, hv⟩
    · exact ⟨_, _, _, hv⟩
  go_wp2
  go_ret2
  refine ⟨rfl, ?_, ?_⟩
  · obtain ⟨-, v2, h1, h2, h3⟩ := Lib.BuilderAt.put (T := 230) (e := 5) hB hb2 (v' := .slice ao n' cap) (bs' := Lib.byteCells (l ++ s.data.toList)) (by rw [Lib.byteCells_length, List.length_append, Lib.byteCells_append]; exact hown') neB5
    have hb3 : (w2.setCell ⟨b, 1, none⟩ (.slice ao n' cap)).heap[b]? = some (.cells #[.pointer (some ⟨b, 0, none⟩), .slice ao n' cap] 230 (0, 0)) := by rw [heap_setCell_same _ _ _ _ _ _ hb2]; rfl
    rw [hb3] at h1
    obtain rfl : Value.slice ao n' cap = v2 := by simpa using h1
    rw [Lib.byteCells_length] at h2
    refine ⟨hB, _, _, .inr rfl, hb3, h2, h3, fun h0 => ?_⟩
    obtain ⟨ha, hs0⟩ := List.append_eq_nil_iff.1 h0
    exact HI.out.2 ⟨HV.out ha, ByteArray.ext (Array.toList_inj.1 hs0)⟩
  · exact (hb1.grown hgrow (by have := hb1.size; omega) (fun k hk => (hown.lt k hk).1)).setCell (p := ⟨b, 1, none⟩) hB _
end Go.Proofs.YtkbboddibgfjbaaGreatDoor
/- A string that is copied over a row of bytes, as far as the row goes; the noughts behind it; of no program. -/
namespace Go.Wire
open Go.RowKit Go.Lib
theorem run_copy_row_min {P : Program} (w : World) (dT sT ty elem : TypeId) (g dLen dCap m : Nat) (s : ByteArray) (cur : Array Value) (t : TypeId)
    (hu : P.underlying dT = some (.slice elem)) (hs : (P.info? elem).map (·.size) = some 1) (hg : w.heap[g]? = some (.cells cur t (0, 0))) (hm : min s.size dLen = m) (hfit : m ≤ cur.size) :
    (Builtin.copy_ #[dT, sT] ty #[.slice (some ⟨g, 0, none⟩) dLen dCap, .string s]).run P w =
      .ok (goInt m) (w.setRow g (byteCells (s.data.toList.take m) ++ cur.toList.drop m).toArray) := by
  have hlen : (byteCells (s.data.toList.take m)).length = m := by
    rw [byteCells_length, List.length_take, ← size_eq]; omega
  have hst := run_storeCells_at P g 0 t (byteCells (s.data.toList.take m)) 0 cur w hg (by rw [hlen]; simpa using hfit) (byteCells_one _)
  have hmin : Nat.min s.size dLen = m := hm
  have htk : List.take m (List.map (fun b : UInt8 => Value.int IntKind.u8 (b.toNat : Int)) s.data.toList) = byteCells (s.data.toList.take m) := by
    rw [← List.map_take]; rfl
  rw [hlen] at hst
  simp only [Nat.add_zero, List.take_zero, List.nil_append, Nat.zero_add] at hst
  cases hq : P.info? elem with
  | none => simp [hq] at hs
  | some i =>
    simp [Builtin.copy_, run_underlying hu, Builtin.lenOf, Builtin.firstCells, sizeOf, typeInfo, hq, hmin]
    rw [htk, hst]
    simp [Result.andThen]
theorem wpList_copy_row_min {P : Program} {w : World} {ops : Array Oper} {rest : List Oper} {o : Oper} {a : Act} {Q : Exit → Act → World → Prop} (hgd : o.guard = none) (d s : Operand) (dT sT : TypeId)
    (ho : o.op = .call { callee := .builtin .copy, args := #[d, s], argTypes := #[dT, sT] }) (elem : TypeId) (hu : P.underlying dT = some (.slice elem)) (hsz : (P.info? elem).map (·.size) = some 1)
    (g dLen dCap m : Nat) (x : ByteArray) (hd : a.eval d = .slice (some ⟨g, 0, none⟩) dLen dCap) (hs : a.eval s = .string x)
    (cur : Array Value) (t : TypeId) (hg : w.heap[g]? = some (.cells cur t (0, 0))) (hm : min x.size dLen = m) (hfit : m ≤ cur.size)
    (h : wpList P ops Q rest (a.put o.dst (goInt m)) (w.setRow g (byteCells (x.data.toList.take m) ++ cur.toList.drop m).toArray)) : wpList P ops Q (o :: rest) a w := by
  refine wpList_plain hgd fun K hK => ?_
  have hrun := run_copy_row_min (P := P) w dT sT o.type elem g dLen dCap m x cur t hu hsz hg hm hfit
  unfold Oper.wp
  simp [execOp, ho, resolve, invoke, builtin, hd, hs, hrun, Result.andThen]
  exact hK _ _ h
/-- A digest's bytes: cut at 32, or filled up. -/
def pad (l : List UInt8) : List UInt8 := l.take 32 ++ List.replicate (32 - l.length) 0
theorem pad_length (l : List UInt8) : (pad l).length = 32 := by
  simp [pad]; omega
def bcells (l : List UInt8) : Array Value := (byteCells l).toArray
def zeros32 : List UInt8 := List.replicate 32 0
theorem bcells_size (l : List UInt8) : (bcells l).size = l.length := by simp [bcells, byteCells]
theorem pad_row (s : ByteArray) (m : Nat) (hm : min s.size 32 = m) : (byteCells (s.data.toList.take m) ++ (bcells zeros32).toList.drop m).toArray = bcells (pad s.data.toList) := by
  have h1 : s.data.toList.length = s.size := by simp
  have h2 : s.data.toList.take m = s.data.toList.take 32 := by
    rcases Nat.le_total s.size 32 with h | h
    · rw [List.take_of_length_le (by omega), List.take_of_length_le (by omega)]
    · rw [← hm, Nat.min_eq_right h]
  have h3 : (byteCells zeros32).drop m = byteCells (List.replicate (32 - s.data.toList.length) 0) := by
    simp only [byteCells, zeros32, List.map_replicate, List.drop_replicate]
    congr 1
    omega
  unfold bcells pad
  rw [h2, byteCells_append, h3]
theorem bcells_has {base g : Nat} {w : World} {l : List UInt8} {e : TypeId} (hh : w.heap[g]? = some (.cells (bcells l) e (0, 0))) (hb : base ≤ g) : ByteRow.Has base w (.slice (some ⟨g, 0, none⟩) l.length l.length) l := by
  have hlt : g < w.heap.size := by
    rcases Nat.lt_or_ge g w.heap.size with h | h
    · exact h
    · rw [Array.getElem?_eq_none h] at hh; cases hh
  refine .inr ⟨g, l.length, rfl, hb, hlt, Nat.le_refl _, fun j c hj => ?_, fun j hj => ?_⟩
  · rw [cell_of_row _ _ _ _ _ _ hh]; simp [bcells, byteCells, hj, Sha.byteV]
  · exact ⟨by rw [cell_of_row _ _ _ _ _ _ hh, Array.getElem?_eq_getElem (by rw [bcells_size]; exact hj)]; rfl, frozen_of_row _ _ _ _ _ hh⟩
theorem below_row {B : Nat} {w w1 : World} (h : Below B w w1) {g : Nat} (hg : B ≤ g) (cs : Array Value) : Below B w (w1.setRow g cs) :=
  h.trans ⟨rfl, rfl, rfl, by simp, fun k hk => setRow_other _ _ _ _ (by omega)⟩
theorem pad_world {w W : World} {T : TypeId} {s : ByteArray} {m : Nat} (hm : min s.size 32 = m) (hW : (w.alloc (.cells (bcells zeros32) T (0, 0))).setRow w.heap.size (byteCells (s.data.toList.take m) ++ (bcells zeros32).toList.drop m).toArray = W) :
    ByteRow.Has w.heap.size W (.slice (some ⟨w.heap.size, 0, none⟩) 32 32) (pad s.data.toList) ∧ Below w.heap.size w W := by
  rw [pad_row s m hm] at hW
  subst hW
  have h1 := bcells_has (setRow_heap _ _ _ (bcells (pad s.data.toList)) _ _ (heap_alloc_new w (.cells (bcells zeros32) T (0, 0)))) (Nat.le_refl w.heap.size)
  rw [pad_length] at h1
  exact ⟨h1, below_row ((Below.refl _ _).alloc (Nat.le_refl _) _) (Nat.le_refl _) _⟩
end Go.Wire
/- The contract of a text's count. -/
namespace Go.Proofs.YtkbboddibgfjbaaGreatDoor
open Go.RowKit Go.Wire
set_option maxHeartbeats 400000 in
theorem count8_any (s : ByteArray) (w : World) (hs : s.size ≤ maxLen) :
    Calls Tryz.prog 177 #[.string s] w fun e w' => e = .returned (.string (numB 8 s.size)) ∧ Below w.heap.size w w' := by
  unfold maxLen at hs
  have HN : Hid (∀ w : World, Calls Tryz.prog 144 #[.int .u64 s.size, .int .i64 4] w fun e w' => e = .returned (.string (numB 8 s.size)) ∧ Below w.heap.size w w') := fun w => number_mid s.size 4 w (by omega) (by decide)
  generalize numB 8 s.size = t at HN
  go_enter Tryz.func177, Tryz.ntmps177
  go_wp2_with (go_at_call 144; refine (HN.out _).mono ?_; rintro e w1 ⟨rfl, k1⟩)
  go_ret
  exact ⟨rfl, by assumption⟩
end Go.Proofs.YtkbboddibgfjbaaGreatDoor
/- Contracts of the writer: one that is there, and a nil one. -/
namespace Go.Wire
open Go.RowKit
/-- The pointer v is nil, or leads to a writer of the bytes l. -/
def WAt (T B : Nat) (v : Value) (l : List UInt8) (w : World) : Prop := v = .pointer none ∨ ∃ b, v = .pointer (some ⟨b, 0, none⟩) ∧ Wr T B b l w
theorem WAt.below {T B : Nat} {v : Value} {l : List UInt8} {w w' : World} (h : WAt T B v l w) (k : Below w.heap.size w w') : WAt T B v l w' := by
  rcases h with h | ⟨b, h, hr⟩
  · exact .inl h
  · exact .inr ⟨b, h, hr.below k⟩
end Go.Wire
namespace Go.Proofs.YtkbboddibgfjbaaGreatDoor
open Go.RowKit Go.Wire
set_option maxHeartbeats 400000 in
theorem wbytes_any (B : Nat) (v : Value) (l : List UInt8) (s : ByteArray) (w : World) (h : WAt 230 B v l w) (hl : v = .pointer none ∨ l.length + s.size ≤ 140737488355328) (hB : B ≤ w.heap.size) :
    Calls Tryz.prog 143 #[v, .string s] w fun e w' => e = .returned (.tuple #[]) ∧ WAt 230 B v (l ++ s.data.toList) w' ∧ Below B w w' := by
  rcases h with rfl | ⟨b, rfl, hr⟩
  · go_enter Tryz.func143, Tryz.ntmps143
    go_wp2
    go_end0
    exact ⟨rfl, .inl rfl, Below.refl _ _⟩
  · have hl2 : l.length + s.size ≤ 140737488355328 := hl.resolve_left (by intro x; cases x)
    clear hl
    go_enter Tryz.func143, Tryz.ntmps143
    go_wp2_with (go_at_call 176; refine (writeString_any B b l s _ hr hl2 hB).mono ?_; rintro e w1 ⟨rfl, h1, k1⟩)
    go_end0
    exact ⟨rfl, .inr ⟨b, rfl, by assumption⟩, by assumption⟩
set_option maxHeartbeats 400000 in
theorem wnumber_any (B : Nat) (v : Value) (l : List UInt8) (n : Nat) (k : Int) (w : World) (h : WAt 230 B v l w) (hl : v = .pointer none ∨ l.length + 16 ≤ 140737488355328) (hB : B ≤ w.heap.size) (hn : n < 18446744073709551616) :
    Calls Tryz.prog 103 #[v, .int .u64 n, .int .i64 k] w fun e w' => e = .returned (.tuple #[]) ∧ WAt 230 B v (l ++ num (2 * (min (max k 0) 8).toNat) n) w' ∧ Below B w w' := by
  have HN : Hid (∀ w : World, Calls Tryz.prog 144 #[.int .u64 n, .int .i64 k] w fun e w' => e = .returned (.string (numB (2 * (min (max k 0) 8).toNat) n)) ∧ Below w.heap.size w w') := fun w => number_any n k w hn
  have hz := numB_size (2 * (min (max k 0) 8).toNat) n
  have he := numB_list (2 * (min (max k 0) 8).toNat) n
  rw [← he]
  have hz2 : (numB (2 * (min (max k 0) 8).toNat) n).size ≤ 16 := by rw [hz]; omega
  generalize numB (2 * (min (max k 0) 8).toNat) n = t at HN hz2
  clear he hz
  have hl2 : v = .pointer none ∨ l.length + t.size ≤ 140737488355328 := hl.imp id (fun x => by omega)
  clear hl
  go_enter Tryz.func103, Tryz.ntmps103
  go_wp2_with (go_at_call 144; refine (HN.out _).mono ?_)
  rintro e w1 ⟨rfl, k1⟩
  have h1 := h.below k1
  have hB1 := Nat.le_trans hB k1.size
  go_wp2_with (go_at_call 143; refine (wbytes_any B v l t _ h1 hl2 hB1).mono ?_)
  rintro e w2 ⟨rfl, h2, k2⟩
  go_wp2
  go_end0
  exact ⟨rfl, h2, (k1.mono hB).trans k2⟩
set_option maxHeartbeats 400000 in
theorem wcount_any (B : Nat) (v : Value) (l : List UInt8) (k : Int) (w : World) (h : WAt 230 B v l w) (hl : v = .pointer none ∨ l.length + 16 ≤ 140737488355328) (hB : B ≤ w.heap.size) (hk : k ≤ 9223372036854775807) :
    Calls Tryz.prog 148 #[v, .int .i64 k] w fun e w' => e = .returned (.tuple #[]) ∧ WAt 230 B v (l ++ num 8 (max k 0).toNat) w' ∧ Below B w w' := by
  have HN : Hid (∀ n : Nat, n < 18446744073709551616 → Calls Tryz.prog 103 #[v, .int .u64 n, .int .i64 4] w fun e w' => e = .returned (.tuple #[]) ∧ WAt 230 B v (l ++ num 8 n) w' ∧ Below B w w') := fun n hn => wnumber_any B v l n 4 w h hl hB hn
  clear h hl hB
  by_cases h0 : k < 0
  · rw [show (max k 0).toNat = 0 by omega]
    go_enter Tryz.func148, Tryz.ntmps148
    go_wp2_with (go_at_call 103; refine (HN.out 0 (by decide)).mono ?_; rintro e w1 ⟨rfl, h1, k1⟩)
    go_end0
    exact ⟨rfl, by assumption, by assumption⟩
  · obtain ⟨n, rfl⟩ : ∃ n : Nat, k = n := ⟨k.toNat, by omega⟩
    rw [show (max (n : Int) 0).toNat = n by omega]
    go_enter Tryz.func148, Tryz.ntmps148
    go_wp2_with (go_at_call 103; refine (HN.out n (by omega)).mono ?_; rintro e w1 ⟨rfl, h1, k1⟩)
    go_end0
    exact ⟨rfl, by assumption, by assumption⟩
set_option maxHeartbeats 400000 in
theorem wtext_any (B : Nat) (v : Value) (l : List UInt8) (s : ByteArray) (w : World) (h : WAt 230 B v l w) (hl : v = .pointer none ∨ l.length + s.size + 16 ≤ 140737488355328) (hB : B ≤ w.heap.size) (hs : s.size ≤ maxLen) :
    Calls Tryz.prog 147 #[v, .string s] w fun e w' => e = .returned (.tuple #[]) ∧ WAt 230 B v (l ++ (num 8 s.size ++ s.data.toList)) w' ∧ Below B w w' := by
  have HN : Hid (∀ w : World, Calls Tryz.prog 177 #[.string s] w fun e w' => e = .returned (.string (numB 8 s.size)) ∧ Below w.heap.size w w') := fun w => count8_any s w hs
  have hz := numB_size 8 s.size
  have he := numB_list 8 s.size
  rw [← he, ← List.append_assoc]
  generalize numB 8 s.size = t at HN hz
  clear he
  have hl1 : v = .pointer none ∨ l.length + t.size ≤ 140737488355328 := hl.imp id (fun x => by omega)
  have hl2 : v = .pointer none ∨ (l ++ t.data.toList).length + s.size ≤ 140737488355328 := hl.imp id (fun x => by simp only [List.length_append, Array.length_toList]; show l.length + t.size + s.size ≤ _; omega)
  clear hl
  go_enter Tryz.func147, Tryz.ntmps147
  go_wp2_with (go_at_call 177; refine (HN.out _).mono ?_)
  rintro e w1 ⟨rfl, k1⟩
  have h1 := h.below k1
  have hB1 := Nat.le_trans hB k1.size
  go_wp2_with (go_at_call 143; refine (wbytes_any B v l t _ h1 hl1 hB1).mono ?_)
  rintro e w2 ⟨rfl, h2, k2⟩
  have hB2 := Nat.le_trans hB1 k2.size
  go_wp2_with (go_at_call 143; refine (wbytes_any B v _ s _ h2 hl2 hB2).mono ?_)
  rintro e w3 ⟨rfl, h3, k3⟩
  go_wp2
  go_end0
  exact ⟨rfl, h3, ((k1.mono hB).trans k2).trans k3⟩
theorem size5 : (Tryz.prog.info? 5).map (·.size) = some 1 := by kernel_rfl
theorem zero32 : (Tryz.prog.info? 231).map (fun i => (i.zero, i.size)) = some (some (.agg (bcells zeros32)), 32) := by kernel_rfl
set_option maxHeartbeats 400000 in
theorem whash_any (B : Nat) (v : Value) (l : List UInt8) (s : ByteArray) (w : World) (h : WAt 230 B v l w) (hl : v = .pointer none ∨ l.length + 32 ≤ 140737488355328) (hB : B ≤ w.heap.size) :
    Calls Tryz.prog 104 #[v, .string s] w fun e w' => e = .returned (.tuple #[]) ∧ WAt 230 B v (l ++ pad s.data.toList) w' ∧ Below B w w' := by
  have hz := (zero_of_info zero32).1
  have HZ : Hid ((bcells zeros32).size = 32) := by rw [Hid, bcells_size]; rfl
  obtain ⟨m, hm⟩ : ∃ m, min s.size 32 = m := ⟨_, rfl⟩
  have HM : Hid (min s.size 32 = m ∧ m ≤ 32) := ⟨hm, by omega⟩
  clear hm
  go_enter Tryz.func104, Tryz.ntmps104
  have hpn := pad_length s.data.toList
  have hp0 : pad s.data.toList ≠ [] := by intro x; rw [x] at hpn; simp at hpn
  have hpz : (⟨(pad s.data.toList).toArray⟩ : ByteArray).size = 32 := by show (pad s.data.toList).toArray.size = 32; rw [List.size_toArray, hpn]
  have HP : Hid (∀ W, (w.alloc (.cells (bcells zeros32) 231 (0, 0))).setRow w.heap.size (Lib.byteCells (s.data.toList.take m) ++ (bcells zeros32).toList.drop m).toArray = W → ByteRow.Has w.heap.size W (.slice (some ⟨w.heap.size, 0, none⟩) 32 32) (pad s.data.toList) ∧ Below w.heap.size w W) := fun W hW => pad_world HM.out.1 hW
  clear hpn
  generalize pad s.data.toList = P at hp0 hpz HP
  have hl2 : v = .pointer none ∨ l.length + (⟨P.toArray⟩ : ByteArray).size ≤ 140737488355328 := hl.imp id (fun x => by rw [hpz]; exact x)
  clear hl hpz
  go_wp2_with (first
    | (refine wpList_copy_row_min rfl _ _ 44 9 rfl 5 underB size5 w.heap.size 32 32 m s rfl rfl (bcells zeros32) 231 (heap_alloc_new _ _) HM.out.1 (by rw [HZ.out]; exact HM.out.2) ?_
       generalize hW : World.setRow _ _ _ = W
       have HW : Hid (ByteRow.Has w.heap.size W (.slice (some ⟨w.heap.size, 0, none⟩) 32 32) P ∧ Below w.heap.size w W) := HP.out W hW
       clear hW)
    | (refine ByteRow.to_string _ rfl 44 9 5 _ rfl P rfl HW.out.1 hp0 underB under5 under9 ?_))
  have h1 := h.below HW.out.2
  have hB1 := Nat.le_trans hB HW.out.2.size
  refine (wbytes_any B v l ⟨P.toArray⟩ _ h1 hl2 hB1).mono ?_
  rintro e w2 ⟨rfl, h2, k2⟩
  go_wp2
  go_end0
  exact ⟨rfl, h2, (HW.out.2.mono hB).trans k2⟩
set_option maxHeartbeats 400000 in
theorem wbool_any (B : Nat) (v : Value) (l : List UInt8) (x : Bool) (w : World) (h : WAt 230 B v l w) (hl : v = .pointer none ∨ l.length + 1 ≤ 140737488355328) (hB : B ≤ w.heap.size) :
    Calls Tryz.prog 146 #[v, .bool x] w fun e w' => e = .returned (.tuple #[]) ∧ WAt 230 B v (l ++ [if x then 121 else 110]) w' ∧ Below B w w' := by
  cases x
  · go_enter Tryz.func146, Tryz.ntmps146
    go_wp2_with (go_at_call 143; refine (wbytes_any B v l ⟨#[110]⟩ _ h hl hB).mono ?_; rintro e w1 ⟨rfl, h1, k1⟩)
    go_end0
    exact ⟨rfl, by assumption, by assumption⟩
  · go_enter Tryz.func146, Tryz.ntmps146
    go_wp2_with (go_at_call 143; refine (wbytes_any B v l ⟨#[121]⟩ _ h hl hB).mono ?_; rintro e w1 ⟨rfl, h1, k1⟩)
    go_end0
    exact ⟨rfl, by assumption, by assumption⟩
end Go.Proofs.YtkbboddibgfjbaaGreatDoor
/- Contracts of a writer's bytes and their number, of a new writer, and of a digest and yes or no as the document has them. -/
namespace Go.Wire
open Go.RowKit
theorem pad_more (l : List UInt8) (h : l.length < 32) : pad (l ++ [0]) = pad l := by
  unfold pad
  rw [List.take_of_length_le (by simp; omega), List.take_of_length_le (by omega), List.length_append, List.length_singleton, List.append_assoc]
  congr 1
  rw [show 32 - l.length = (32 - (l.length + 1)) + 1 by omega, List.replicate_succ]
  rfl
theorem pad_done (l : List UInt8) (h : 32 ≤ l.length) : pad l = l.take 32 := by
  unfold pad
  rw [show 32 - l.length = 0 by omega]
  simp
def sizeV : Value → Nat
  | .string t => t.size
  | _ => 0
theorem freeze_other (w : World) (a : Addr) (n k : Nat) (h : k ≠ a.block) : (w.freeze a n).heap[k]? = w.heap[k]? := by
  unfold World.freeze
  split
  · rfl
  · simp [Array.getElem?_modify, Ne.symm h]
end Go.Wire
namespace Go.Proofs.YtkbboddibgfjbaaGreatDoor
open Go.RowKit Go.Wire
theorem underP5 : Tryz.prog.underlying 252 = some (.pointer 5) := by kernel_rfl
set_option maxHeartbeats 400000 in
theorem rhash_any (s : ByteArray) (w : World) (hs : s.size ≤ 1000000) :
    Calls Tryz.prog 73 #[.string s] w fun e w' => e = .returned (.string ⟨(pad s.data.toList).toArray⟩) ∧ w' = w := by
  go_enter Tryz.func73, Tryz.ntmps73
  go_wp2
  go_loop [0] (fun v => ∃ t : ByteArray, v = .string t ∧ t.size ≤ 1000000 ∧ Hid (pad t.data.toList = pad s.data.toList)) (fun v => 32 - sizeV v)
  case atStart => exact ⟨s, rfl, hs, rfl⟩
  case round =>
    obtain ⟨t, rfl, ht, hp⟩ := hrel
    have htl : t.data.toList.length = t.size := by simp
    by_cases hlt : t.size < 32
    · have HP : Hid (pad (t ++ (⟨#[0]⟩ : ByteArray)).data.toList = pad s.data.toList ∧ (t ++ (⟨#[0]⟩ : ByteArray)).size = t.size + 1) := by
        refine ⟨?_, by rw [ByteArray.size_append]; rfl⟩
        have e : (t ++ (⟨#[0]⟩ : ByteArray)).data.toList = t.data.toList ++ [0] := by simp
        rw [e, pad_more _ (by omega)]; exact hp.out
      clear htl
      go_wp2
      go_round
      case rel => exact ⟨t ++ (⟨#[0]⟩ : ByteArray), rfl, by rw [HP.out.2]; omega, HP.out.1⟩
      case measure =>
        show 32 - (t ++ (⟨#[0]⟩ : ByteArray)).size < 32 - t.size
        rw [HP.out.2]; omega
    · have HP : Hid (t.extract 0 32 = ⟨(pad s.data.toList).toArray⟩) := by
        rw [Hid, ← hp.out, pad_done _ (by omega)]
        apply ByteArray.ext
        apply Array.toList_inj.1
        rw [ByteArray.data_extract, Array.toList_extract]
        simp [List.extract]
      clear htl
      go_wp2
      go_ret
      rw [← HP.out]
      exact ⟨rfl, rfl⟩
set_option maxHeartbeats 400000 in
theorem rboolB_any (x : Bool) (w : World) :
    Calls Tryz.prog 72 #[.bool x] w fun e w' => e = .returned (.string ⟨#[if x then 121 else 110]⟩) ∧ w' = w := by
  cases x
  · go_enter Tryz.func72, Tryz.ntmps72
    go_wp2
    go_ret
    exact ⟨rfl, rfl⟩
  · go_enter Tryz.func72, Tryz.ntmps72
    go_wp2
    go_ret
    exact ⟨rfl, rfl⟩
set_option maxHeartbeats 400000 in
theorem newWriter_any (w : World) :
    Calls Tryz.prog 102 #[] w fun e w' => e = .returned (.pointer (some ⟨w.heap.size, 0, none⟩)) ∧ Wr 230 w.heap.size w.heap.size [] w' ∧ Below w.heap.size w w' := by
  go_enter Tryz.func102, Tryz.ntmps102
  go_wp2
  go_ret
  exact ⟨rfl, Wr.fresh _ _, (Below.refl _ _).alloc (Nat.le_refl _) _⟩
set_option maxHeartbeats 2000000 in
set_option maxRecDepth 100000 in
theorem bstring_row (B b g cap : Nat) (p : Value) (cur : Array Value) (l : List UInt8) (w : World) (h0 : l ≠ []) (hbg : B ≤ g) (hgb : g ≠ b) (hbk : w.heap[b]? = some (.cells #[p, .slice (some ⟨g, 0, none⟩) l.length cap] 230 (0, 0)))
    (hg : w.heap[g]? = some (.cells cur 5 (0, 0))) (hnc : l.length ≤ cap) (hcm : cap ≤ maxLen) (hcs : cur.size = cap * 1) (htake : cur.toList.take (l.length * 1) = Lib.byteCells l) :
    Calls Tryz.prog 149 #[.pointer (some ⟨b, 0, none⟩)] w fun e w' => e = .returned (.string ⟨l.toArray⟩) ∧ w'.heap[b]? = some (.cells #[p, .slice (some ⟨g, 0, none⟩) l.length cap] 230 (0, 0)) ∧ Below B w w' := by
  have hl0 : l.length ≠ 0 := by simpa using h0
  have c1 : w.drew.cell? ⟨b, 1, none⟩ = some (.slice (some ⟨g, 0, none⟩) l.length cap) := by
    have : w.drew.heap[b]? = some (.cells #[p, .slice (some ⟨g, 0, none⟩) l.length cap] 230 (0, 0)) := hbk
    rw [Lib.cell_of_heap this]; rfl
  have hSD : (Builtin.unsafeSliceData_ #[44] 252 #[.slice (some ⟨g, 0, none⟩) l.length cap]).run Tryz.prog w.drew = .ok (.pointer (some ⟨g, 0, none⟩)) w.drew :=
    Lib.run_unsafeSliceData_row _ _ _ _ _ _ (by omega)
  have hUS : (Builtin.unsafeString_ #[252, 3] 9 #[.pointer (some ⟨g, 0, none⟩), .int .i64 l.length]).run Tryz.prog w.drew = .ok (.string ⟨l.toArray⟩) (w.drew.freeze ⟨g, 0, none⟩ l.length) := by
    refine Lib.run_unsafeString_row w.drew 252 3 9 5 underP5 cells5 g cur.size (by have hg' : w.drew.heap[g]? = some (.cells cur 5 (0, 0)) := hg; simp [World.shape?, hg']) l h0 (by omega) (by unfold maxLen at hcm; omega) ?_
    intro j x hx
    have hj : j < l.length := (List.getElem?_eq_some_iff.1 hx).1
    have hg' : w.drew.heap[g]? = some (.cells cur 5 (0, 0)) := hg
    rw [show (⟨g, 0, none⟩ : Addr).add j = ⟨g, j, none⟩ by unfold Addr.add; split <;> simp_all, Lib.cell_of_heap hg', ← Array.getElem?_toList]
    have h1 : (cur.toList.take (l.length * 1))[j]? = some (.int .u8 x.toNat) := by rw [htake]; simp [Lib.byteCells, hx]
    rwa [List.getElem?_take_of_lt (by omega)] at h1
  have HB : Hid ((w.drew.freeze ⟨g, 0, none⟩ l.length).heap[b]? = some (.cells #[p, .slice (some ⟨g, 0, none⟩) l.length cap] 230 (0, 0))) := (freeze_other _ ⟨g, 0, none⟩ _ b (fun e => hgb e.symm)).trans hbk
  have mixed : Tryz.prog.follows Departure.mixedOrders = true := by kernel_rfl
  go_enter Tryz.func149, Tryz.ntmps149
  go_wp2
  go_region_o
  all_goals (go_wp2; go_ret; exact ⟨rfl, HB.out, Lib.below_freeze (Below.drew (Below.refl B w)) (p := ⟨g, 0, none⟩) hbg _⟩)
set_option maxHeartbeats 2000000 in
set_option maxRecDepth 100000 in
theorem bstring_nil (b : Nat) (p : Value) (w : World) (hbk : w.heap[b]? = some (.cells #[p, .slice none 0 0] 230 (0, 0))) :
    Calls Tryz.prog 149 #[.pointer (some ⟨b, 0, none⟩)] w fun e w' => e = .returned (.string ⟨#[]⟩) ∧ w'.heap[b]? = w.heap[b]? ∧ Below w.heap.size w w' := by
  have hUS : ∀ (W : World) (q : Option Addr), (Builtin.unsafeString_ #[252, 3] 9 #[.pointer q, .int .i64 0]).run Tryz.prog W = .ok (.string .empty) W := fun W q => Lib.run_unsafeString_none W _ _ _ q
  have c1 : w.drew.cell? ⟨b, 1, none⟩ = some (.slice none 0 0) := by
    have : w.drew.heap[b]? = some (.cells #[p, .slice none 0 0] 230 (0, 0)) := hbk
    rw [Lib.cell_of_heap this]; rfl
  have hSD : (Builtin.unsafeSliceData_ #[44] 252 #[.slice none 0 0]).run Tryz.prog w.drew = .ok (.pointer none) w.drew := rfl
  have mixed : Tryz.prog.follows Departure.mixedOrders = true := by kernel_rfl
  go_enter Tryz.func149, Tryz.ntmps149
  go_wp2
  go_region_o
  all_goals (go_wp2; go_ret; exact ⟨rfl, rfl, Below.drew (Below.refl _ w)⟩)
set_option maxHeartbeats 400000 in
theorem wall_any (B b : Nat) (l : List UInt8) (w : World) (hB : B ≤ w.heap.size) (h : Wr 230 B b l w) :
    Calls Tryz.prog 106 #[.pointer (some ⟨b, 0, none⟩)] w fun e w' => e = .returned (.string ⟨l.toArray⟩) ∧ (∃ p ao cap, w'.heap[b]? = some (.cells #[p, .slice ao l.length cap] 230 (0, 0))) ∧ Below B w w' := by
  have HS : Hid (Calls Tryz.prog 149 #[.pointer (some ⟨b, 0, none⟩)] w fun e w' => e = .returned (.string ⟨l.toArray⟩) ∧ (∃ p ao cap, w'.heap[b]? = some (.cells #[p, .slice ao l.length cap] 230 (0, 0))) ∧ Below B w w') := by
    obtain ⟨hBb, p, v, hp, hb, ho, hn, he⟩ := h
    by_cases h0 : l = []
    · have hv := he h0
      subst hv
      subst h0
      refine (bstring_nil b p w hb).mono fun e w' ⟨h1, h2, h3⟩ => ⟨h1, ⟨p, none, 0, by rw [h2]; exact hb⟩, h3.mono hB⟩
    · have hl0 : l.length ≠ 0 := by simpa using h0
      rcases ho.2 with ⟨_, hz⟩ | ⟨g, cap, cur, hv, hbg, hg, hnc, hcm, hcs, htake⟩
      · exact absurd hz hl0
      · subst hv
        have hgb : g ≠ b := fun e => hn (by rw [e]; rfl)
        exact (bstring_row B b g cap p cur l w h0 hbg hgb hb hg hnc hcm hcs htake).mono fun e w' ⟨h1, h2, h3⟩ => ⟨h1, ⟨p, _, cap, h2⟩, h3⟩
  go_enter Tryz.func106, Tryz.ntmps106
  go_wp2_with (go_at_call 149; refine HS.out.mono ?_; rintro e w1 ⟨rfl, h1, k1⟩)
  go_ret
  exact ⟨rfl, by assumption, by assumption⟩
end Go.Proofs.YtkbboddibgfjbaaGreatDoor
/- The writer's contracts once more, with what they leave alone: all blocks but the writer's own that are no rows of bytes. -/
namespace Go.Wire
open Go.RowKit
/-- What was there below B stands, and all else that is no row of bytes, but for the writer v itself. -/
structure Wrote (B : Nat) (v : Value) (w w' : World) : Prop where
  below : Below B w w'
  spare : ∀ k c T fr, v ≠ .pointer (some ⟨k, 0, none⟩) → T ≠ 5 → w.heap[k]? = some (.cells c T fr) → w'.heap[k]? = w.heap[k]?
theorem Wrote.refl (B : Nat) (v : Value) (w : World) : Wrote B v w w := ⟨Below.refl _ _, fun _ _ _ _ _ _ _ => rfl⟩
theorem Wrote.of {B : Nat} {v : Value} {w w' : World} (h : Below w.heap.size w w') (hB : B ≤ w.heap.size) : Wrote B v w w' := ⟨h.mono hB, fun k _ _ _ _ _ hc => h.block k (row_lt hc)⟩
theorem Wrote.trans {B : Nat} {v : Value} {w w1 w2 : World} (h : Wrote B v w w1) (k : Wrote B v w1 w2) : Wrote B v w w2 :=
  ⟨h.below.trans k.below, fun j c T fr hj hT hc => (k.spare j c T fr hj hT ((h.spare j c T fr hj hT hc).trans hc)).trans (h.spare j c T fr hj hT hc)⟩
theorem Wrote.set {B b : Nat} {w : World} (hB : B ≤ b) (i : Nat) (x : Value) : Wrote B (.pointer (some ⟨b, 0, none⟩)) w (w.setCell ⟨b, i, none⟩ x) :=
  ⟨(Below.refl B w).setCell (p := ⟨b, i, none⟩) hB _, fun k _ _ _ hk _ _ => Below.heap_setCell _ ⟨b, i, none⟩ _ k (fun e => hk (by rw [e]))⟩
theorem Wrote.row {B k : Nat} {v : Value} {w w' : World} {c : Array Value} {T : TypeId} {fr : Nat × Nat} (h : Wrote B v w w') (hk : v ≠ .pointer (some ⟨k, 0, none⟩)) (hT : T ≠ 5) (hc : w.heap[k]? = some (.cells c T fr)) : w'.heap[k]? = some (.cells c T fr) := (h.spare k c T fr hk hT hc).trans hc
theorem own_tag {w : World} {B n k : Nat} {v : Value} {xs : List Value} {c : Array Value} {T : TypeId} {fr : Nat × Nat} (h : w.ownsRow B 5 1 v n xs) (e : v.ownBlock = some k) (hc : w.heap[k]? = some (.cells c T fr)) : T = 5 := by
  rcases h.2 with ⟨rfl, _⟩ | ⟨g, cap, cur, rfl, _, hg, _⟩
  · cases e
  · obtain rfl : g = k := by simpa [Value.ownBlock] using e
    rw [hg] at hc
    simp only [Option.some.injEq, Obj.cells.injEq] at hc
    exact hc.2.1.symm
end Go.Wire
namespace Go.Proofs.YtkbboddibgfjbaaGreatDoor
open Go.RowKit Go.Wire
theorem copyCheck_sp (B b : Nat) (l : List UInt8) (w : World) (h : Wr 230 B b l w) :
    Calls Tryz.prog 184 #[.pointer (some ⟨b, 0, none⟩)] w fun e w' => e = .returned (.tuple #[]) ∧ (∃ v, w'.heap[b]? = some (.cells #[.pointer (some ⟨b, 0, none⟩), v] 230 (0, 0)) ∧ w'.ownsRow B 5 1 v l.length (Lib.byteCells l) ∧ v.ownBlock ≠ some b ∧ (l = [] → v = .slice none 0 0)) ∧ Wrote B (.pointer (some ⟨b, 0, none⟩)) w w' := by
  obtain ⟨hB, p, v, hp, hb, ho, hn, he⟩ := h
  have hat : Lib.BuilderAt 230 5 B b p (Lib.byteCells l) w := ⟨hB, v, hb, by rw [Lib.byteCells_length]; exact ho, hn⟩
  rcases hp with rfl | rfl
  · refine (copyCheck_fresh b w hat.cell0 hat.shape hat.frozen0).mono ?_
    rintro e w' ⟨rfl, rfl⟩
    have hb' : (w.setCell ⟨b, 0, none⟩ (.pointer (some ⟨b, 0, none⟩))).heap[b]? = some (.cells #[.pointer (some ⟨b, 0, none⟩), v] 230 (0, 0)) := by rw [heap_setCell_same _ _ _ _ _ _ hb]; rfl
    obtain ⟨-, v', h1, h2, h3⟩ := hat.used (.pointer (some ⟨b, 0, none⟩))
    rw [hb'] at h1
    obtain rfl : v = v' := by simpa using h1
    rw [Lib.byteCells_length] at h2
    exact ⟨rfl, ⟨v, hb', h2, h3, he⟩, Wrote.set hB 0 _⟩
  · refine (copyCheck_used b w hat.cell0).mono ?_
    rintro e w' ⟨rfl, rfl⟩
    exact ⟨rfl, ⟨v, hb, ho, hn, he⟩, Wrote.refl _ _ _⟩
set_option maxHeartbeats 2000000 in
set_option maxRecDepth 100000 in
theorem writeString_sp (B b : Nat) (l : List UInt8) (s : ByteArray) (w : World) (h : Wr 230 B b l w) (hlen : l.length + s.size ≤ 140737488355328) (hBw : B ≤ w.heap.size) :
    Calls Tryz.prog 176 #[.pointer (some ⟨b, 0, none⟩), .string s] w fun e w' => e = .returned (.tuple #[.int .i64 s.size, .nilIface]) ∧ Wr 230 B b (l ++ s.data.toList) w' ∧ Wrote B (.pointer (some ⟨b, 0, none⟩)) w w' := by
  have hB := h.1
  obtain ⟨i0, hi, hz0, hz1, hz2⟩ := info_parts info5
  go_enter Tryz.func176, Tryz.ntmps176
  go_wp2_with (go_at_call 184; refine (copyCheck_sp B b l _ h).mono ?_)
  rintro e w1 ⟨rfl, ⟨v, hbk, hown, hne, hnil⟩, hb1⟩
  have c0 : w1.cell? ⟨b, 0, none⟩ = some (.pointer (some ⟨b, 0, none⟩)) := by rw [Lib.cell_of_heap hbk]; rfl
  have c1 : w1.cell? ⟨b, 1, none⟩ = some v := by rw [Lib.cell_of_heap hbk]; rfl
  go_wp2_with (at_builtin; refine Lib.wpList_append_own_string _ rfl _ _ 44 9 rfl B 5 i0 underB under9 hi hz0 hz1 hz2 _ _ _ rfl hown s rfl ?c3 ?c4 ?c5 ?_)
  case c3 => unfold maxLen; omega
  case c4 => omega
  case c5 => have := hb1.below.size; omega
  intro v' w2 hown' hgrow hiff
  have hlt : b < w1.heap.size := by
    rcases Nat.lt_or_ge b w1.heap.size with h' | h'
    · exact h'
    · simp [Array.getElem?_eq_none h'] at hbk
  have hb2 : w2.heap[b]? = some (.cells #[.pointer (some ⟨b, 0, none⟩), v] 230 (0, 0)) := by
    rw [hgrow.block b hlt (fun e => hne e.symm)]
    exact hbk
  have d0 : w2.cell? ⟨b, 0, none⟩ = some (.pointer (some ⟨b, 0, none⟩)) := by rw [Lib.cell_of_heap hb2]; rfl
  have d1 : w2.cell? ⟨b, 1, none⟩ = some v := by rw [Lib.cell_of_heap hb2]; rfl
  have f1 : w2.frozen? ⟨b, 1, none⟩ = false := Lib.frozen_of_heap hb2 1
  have HI : Hid (v' = .slice none 0 0 ↔ v = .slice none 0 0 ∧ s = ByteArray.empty) := hiff
  have HV : Hid (l = [] → v = .slice none 0 0) := hnil
  clear hiff hnil
  obtain ⟨ao, n', cap, rfl⟩ : ∃ ao n' cap, v' = .slice ao n' cap := by
    rcases hown'.2 with ⟨hv, _⟩ | ⟨g, cap, cur, hv, _⟩
    · exact ⟨_, _, _, hv⟩
    · exact ⟨_, _, _, hv⟩
  go_wp2
  go_ret2
  refine ⟨rfl, ?_, ?_⟩
  · obtain ⟨-, v2, h1, h2, h3⟩ := Lib.BuilderAt.put (T := 230) (e := 5) hB hb2 (v' := .slice ao n' cap) (bs' := Lib.byteCells (l ++ s.data.toList)) (by rw [Lib.byteCells_length, List.length_append, Lib.byteCells_append]; exact hown') neB5
    have hb3 : (w2.setCell ⟨b, 1, none⟩ (.slice ao n' cap)).heap[b]? = some (.cells #[.pointer (some ⟨b, 0, none⟩), .slice ao n' cap] 230 (0, 0)) := by rw [heap_setCell_same _ _ _ _ _ _ hb2]; rfl
    rw [hb3] at h1
    obtain rfl : Value.slice ao n' cap = v2 := by simpa using h1
    rw [Lib.byteCells_length] at h2
    refine ⟨hB, _, _, .inr rfl, hb3, h2, h3, fun h0 => ?_⟩
    obtain ⟨ha, hs0⟩ := List.append_eq_nil_iff.1 h0
    exact HI.out.2 ⟨HV.out ha, ByteArray.ext (Array.toList_inj.1 hs0)⟩
  · refine ⟨(hb1.below.grown hgrow (by have := hb1.below.size; omega) (fun k hk => (hown.lt k hk).1)).setCell (p := ⟨b, 1, none⟩) hB _, fun k c T fr hk hT hc => ?_⟩
    have hk1 := hb1.spare k c T fr hk hT hc
    have hkb : k ≠ b := fun e => hk (by rw [e])
    rw [Below.heap_setCell _ ⟨b, 1, none⟩ _ k hkb, hgrow.block k (row_lt (hk1.trans hc)) (fun e => hT (own_tag hown e.symm (hk1.trans hc))), hk1]
set_option maxHeartbeats 400000 in
theorem wbytes_sp (B : Nat) (v : Value) (l : List UInt8) (s : ByteArray) (w : World) (h : WAt 230 B v l w) (hl : v = .pointer none ∨ l.length + s.size ≤ 140737488355328) (hB : B ≤ w.heap.size) :
    Calls Tryz.prog 143 #[v, .string s] w fun e w' => e = .returned (.tuple #[]) ∧ WAt 230 B v (l ++ s.data.toList) w' ∧ Wrote B v w w' := by
  rcases h with rfl | ⟨b, rfl, hr⟩
  · go_enter Tryz.func143, Tryz.ntmps143
    go_wp2
    go_end0
    exact ⟨rfl, .inl rfl, Wrote.refl _ _ _⟩
  · have hl2 : l.length + s.size ≤ 140737488355328 := hl.resolve_left (by intro x; cases x)
    clear hl
    go_enter Tryz.func143, Tryz.ntmps143
    go_wp2_with (go_at_call 176; refine (writeString_sp B b l s _ hr hl2 hB).mono ?_; rintro e w1 ⟨rfl, h1, k1⟩)
    go_end0
    exact ⟨rfl, .inr ⟨b, rfl, by assumption⟩, by assumption⟩
set_option maxHeartbeats 400000 in
theorem wnumber_sp (B : Nat) (v : Value) (l : List UInt8) (n : Nat) (k : Int) (w : World) (h : WAt 230 B v l w) (hl : v = .pointer none ∨ l.length + 16 ≤ 140737488355328) (hB : B ≤ w.heap.size) (hn : n < 18446744073709551616) :
    Calls Tryz.prog 103 #[v, .int .u64 n, .int .i64 k] w fun e w' => e = .returned (.tuple #[]) ∧ WAt 230 B v (l ++ num (2 * (min (max k 0) 8).toNat) n) w' ∧ Wrote B v w w' := by
  have HN : Hid (∀ w : World, Calls Tryz.prog 144 #[.int .u64 n, .int .i64 k] w fun e w' => e = .returned (.string (numB (2 * (min (max k 0) 8).toNat) n)) ∧ Below w.heap.size w w') := fun w => number_any n k w hn
  have hz := numB_size (2 * (min (max k 0) 8).toNat) n
  have he := numB_list (2 * (min (max k 0) 8).toNat) n
  rw [← he]
  have hz2 : (numB (2 * (min (max k 0) 8).toNat) n).size ≤ 16 := by rw [hz]; omega
  generalize numB (2 * (min (max k 0) 8).toNat) n = t at HN hz2
  clear he hz
  have hl2 : v = .pointer none ∨ l.length + t.size ≤ 140737488355328 := hl.imp id (fun x => by omega)
  clear hl
  go_enter Tryz.func103, Tryz.ntmps103
  go_wp2_with (go_at_call 144; refine (HN.out _).mono ?_)
  rintro e w1 ⟨rfl, k1⟩
  have h1 := h.below k1
  have hB1 := Nat.le_trans hB k1.size
  go_wp2_with (go_at_call 143; refine (wbytes_sp B v l t _ h1 hl2 hB1).mono ?_)
  rintro e w2 ⟨rfl, h2, k2⟩
  go_wp2
  go_end0
  exact ⟨rfl, h2, (Wrote.of k1 hB).trans k2⟩
set_option maxHeartbeats 400000 in
theorem wcount_sp (B : Nat) (v : Value) (l : List UInt8) (k : Int) (w : World) (h : WAt 230 B v l w) (hl : v = .pointer none ∨ l.length + 16 ≤ 140737488355328) (hB : B ≤ w.heap.size) (hk : k ≤ 9223372036854775807) :
    Calls Tryz.prog 148 #[v, .int .i64 k] w fun e w' => e = .returned (.tuple #[]) ∧ WAt 230 B v (l ++ num 8 (max k 0).toNat) w' ∧ Wrote B v w w' := by
  have HN : Hid (∀ n : Nat, n < 18446744073709551616 → Calls Tryz.prog 103 #[v, .int .u64 n, .int .i64 4] w fun e w' => e = .returned (.tuple #[]) ∧ WAt 230 B v (l ++ num 8 n) w' ∧ Wrote B v w w') := fun n hn => wnumber_sp B v l n 4 w h hl hB hn
  clear h hl hB
  by_cases h0 : k < 0
  · rw [show (max k 0).toNat = 0 by omega]
    go_enter Tryz.func148, Tryz.ntmps148
    go_wp2_with (go_at_call 103; refine (HN.out 0 (by decide)).mono ?_; rintro e w1 ⟨rfl, h1, k1⟩)
    go_end0
    exact ⟨rfl, by assumption, by assumption⟩
  · obtain ⟨n, rfl⟩ : ∃ n : Nat, k = n := ⟨k.toNat, by omega⟩
    rw [show (max (n : Int) 0).toNat = n by omega]
    go_enter Tryz.func148, Tryz.ntmps148
    go_wp2_with (go_at_call 103; refine (HN.out n (by omega)).mono ?_; rintro e w1 ⟨rfl, h1, k1⟩)
    go_end0
    exact ⟨rfl, by assumption, by assumption⟩
set_option maxHeartbeats 400000 in
theorem wtext_sp (B : Nat) (v : Value) (l : List UInt8) (s : ByteArray) (w : World) (h : WAt 230 B v l w) (hl : v = .pointer none ∨ l.length + s.size + 16 ≤ 140737488355328) (hB : B ≤ w.heap.size) (hs : s.size ≤ maxLen) :
    Calls Tryz.prog 147 #[v, .string s] w fun e w' => e = .returned (.tuple #[]) ∧ WAt 230 B v (l ++ (num 8 s.size ++ s.data.toList)) w' ∧ Wrote B v w w' := by
  have HN : Hid (∀ w : World, Calls Tryz.prog 177 #[.string s] w fun e w' => e = .returned (.string (numB 8 s.size)) ∧ Below w.heap.size w w') := fun w => count8_any s w hs
  have hz := numB_size 8 s.size
  have he := numB_list 8 s.size
  rw [← he, ← List.append_assoc]
  generalize numB 8 s.size = t at HN hz
  clear he
  have hl1 : v = .pointer none ∨ l.length + t.size ≤ 140737488355328 := hl.imp id (fun x => by omega)
  have hl2 : v = .pointer none ∨ (l ++ t.data.toList).length + s.size ≤ 140737488355328 := hl.imp id (fun x => by simp only [List.length_append, Array.length_toList]; show l.length + t.size + s.size ≤ _; omega)
  clear hl
  go_enter Tryz.func147, Tryz.ntmps147
  go_wp2_with (go_at_call 177; refine (HN.out _).mono ?_)
  rintro e w1 ⟨rfl, k1⟩
  have h1 := h.below k1
  have hB1 := Nat.le_trans hB k1.size
  go_wp2_with (go_at_call 143; refine (wbytes_sp B v l t _ h1 hl1 hB1).mono ?_)
  rintro e w2 ⟨rfl, h2, k2⟩
  have hB2 := Nat.le_trans hB1 k2.below.size
  go_wp2_with (go_at_call 143; refine (wbytes_sp B v _ s _ h2 hl2 hB2).mono ?_)
  rintro e w3 ⟨rfl, h3, k3⟩
  go_wp2
  go_end0
  exact ⟨rfl, h3, ((Wrote.of k1 hB).trans k2).trans k3⟩
theorem size5' : (Tryz.prog.info? 5).map (·.size) = some 1 := by kernel_rfl
theorem zero32' : (Tryz.prog.info? 231).map (fun i => (i.zero, i.size)) = some (some (.agg (bcells zeros32)), 32) := by kernel_rfl
set_option maxHeartbeats 400000 in
theorem whash_sp (B : Nat) (v : Value) (l : List UInt8) (s : ByteArray) (w : World) (h : WAt 230 B v l w) (hl : v = .pointer none ∨ l.length + 32 ≤ 140737488355328) (hB : B ≤ w.heap.size) :
    Calls Tryz.prog 104 #[v, .string s] w fun e w' => e = .returned (.tuple #[]) ∧ WAt 230 B v (l ++ pad s.data.toList) w' ∧ Wrote B v w w' := by
  have hz := (zero_of_info zero32').1
  have HZ : Hid ((bcells zeros32).size = 32) := by rw [Hid, bcells_size]; rfl
  obtain ⟨m, hm⟩ : ∃ m, min s.size 32 = m := ⟨_, rfl⟩
  have HM : Hid (min s.size 32 = m ∧ m ≤ 32) := ⟨hm, by omega⟩
  clear hm
  go_enter Tryz.func104, Tryz.ntmps104
  have hpn := pad_length s.data.toList
  have hp0 : pad s.data.toList ≠ [] := by intro x; rw [x] at hpn; simp at hpn
  have hpz : (⟨(pad s.data.toList).toArray⟩ : ByteArray).size = 32 := by show (pad s.data.toList).toArray.size = 32; rw [List.size_toArray, hpn]
  have HP : Hid (∀ W, (w.alloc (.cells (bcells zeros32) 231 (0, 0))).setRow w.heap.size (Lib.byteCells (s.data.toList.take m) ++ (bcells zeros32).toList.drop m).toArray = W → ByteRow.Has w.heap.size W (.slice (some ⟨w.heap.size, 0, none⟩) 32 32) (pad s.data.toList) ∧ Below w.heap.size w W) := fun W hW => pad_world HM.out.1 hW
  clear hpn
  generalize pad s.data.toList = P at hp0 hpz HP
  have hl2 : v = .pointer none ∨ l.length + (⟨P.toArray⟩ : ByteArray).size ≤ 140737488355328 := hl.imp id (fun x => by rw [hpz]; exact x)
  clear hl hpz
  go_wp2_with (first
    | (refine wpList_copy_row_min rfl _ _ 44 9 rfl 5 underB size5' w.heap.size 32 32 m s rfl rfl (bcells zeros32) 231 (heap_alloc_new _ _) HM.out.1 (by rw [HZ.out]; exact HM.out.2) ?_
       generalize hW : World.setRow _ _ _ = W
       have HW : Hid (ByteRow.Has w.heap.size W (.slice (some ⟨w.heap.size, 0, none⟩) 32 32) P ∧ Below w.heap.size w W) := HP.out W hW
       clear hW)
    | (refine ByteRow.to_string _ rfl 44 9 5 _ rfl P rfl HW.out.1 hp0 underB under5 under9 ?_))
  have h1 := h.below HW.out.2
  have hB1 := Nat.le_trans hB HW.out.2.size
  refine (wbytes_sp B v l ⟨P.toArray⟩ _ h1 hl2 hB1).mono ?_
  rintro e w2 ⟨rfl, h2, k2⟩
  go_wp2
  go_end0
  exact ⟨rfl, h2, (Wrote.of HW.out.2 hB).trans k2⟩
set_option maxHeartbeats 400000 in
theorem wbool_sp (B : Nat) (v : Value) (l : List UInt8) (x : Bool) (w : World) (h : WAt 230 B v l w) (hl : v = .pointer none ∨ l.length + 1 ≤ 140737488355328) (hB : B ≤ w.heap.size) :
    Calls Tryz.prog 146 #[v, .bool x] w fun e w' => e = .returned (.tuple #[]) ∧ WAt 230 B v (l ++ [if x then 121 else 110]) w' ∧ Wrote B v w w' := by
  cases x
  · go_enter Tryz.func146, Tryz.ntmps146
    go_wp2_with (go_at_call 143; refine (wbytes_sp B v l ⟨#[110]⟩ _ h hl hB).mono ?_; rintro e w1 ⟨rfl, h1, k1⟩)
    go_end0
    exact ⟨rfl, by assumption, by assumption⟩
  · go_enter Tryz.func146, Tryz.ntmps146
    go_wp2_with (go_at_call 143; refine (wbytes_sp B v l ⟨#[121]⟩ _ h hl hB).mono ?_; rintro e w1 ⟨rfl, h1, k1⟩)
    go_end0
    exact ⟨rfl, by assumption, by assumption⟩
end Go.Proofs.YtkbboddibgfjbaaGreatDoor
/- A writer that is only asked any more: what it has is told again and again. -/
namespace Go.Wire
open Go.RowKit
theorem freeze_same {w : World} {g : Nat} {cur : Array Value} {T : TypeId} {fr : Nat × Nat} (h : w.heap[g]? = some (.cells cur T fr)) (n : Nat) : ∃ fr', (w.freeze ⟨g, 0, none⟩ n).heap[g]? = some (.cells cur T fr') := by
  unfold World.freeze
  split
  · exact ⟨fr, h⟩
  · obtain ⟨lo, hi⟩ := fr
    refine ⟨if lo == hi then (0, 0 + n) else (min lo 0, max hi (0 + n)), ?_⟩
    simp only [Array.getElem?_modify, if_true, h, Option.map_some]
/-- Block b is a writer that has the bytes l; they may have been told. -/
def Wt (T B b : Nat) (l : List UInt8) (w : World) : Prop :=
  ∃ p, (l = [] ∧ w.heap[b]? = some (.cells #[p, .slice none 0 0] T (0, 0))) ∨
    ∃ g cap cur fr, l ≠ [] ∧ B ≤ g ∧ g ≠ b ∧ w.heap[b]? = some (.cells #[p, .slice (some ⟨g, 0, none⟩) l.length cap] T (0, 0)) ∧ w.heap[g]? = some (.cells cur 5 fr) ∧ l.length ≤ cap ∧ cap ≤ maxLen ∧ cur.size = cap * 1 ∧ cur.toList.take (l.length * 1) = Lib.byteCells l
theorem Wr.told {T B b : Nat} {l : List UInt8} {w : World} (h : Wr T B b l w) : Wt T B b l w := by
  obtain ⟨hBb, p, v, hp, hb, ho, hn, he⟩ := h
  refine ⟨p, ?_⟩
  by_cases h0 : l = []
  · have hv := he h0
    subst hv
    exact .inl ⟨h0, hb⟩
  · have hl0 : l.length ≠ 0 := by simpa using h0
    rcases ho.2 with ⟨_, hz⟩ | ⟨g, cap, cur, hv, hbg, hg, hnc, hcm, hcs, htake⟩
    · exact absurd hz hl0
    · subst hv
      exact .inr ⟨g, cap, cur, _, h0, hbg, fun e => hn (by rw [e]; rfl), hb, hg, hnc, hcm, hcs, htake⟩
theorem Wt.below {T B b : Nat} {l : List UInt8} {w w' : World} (h : Wt T B b l w) (k : Below w.heap.size w w') : Wt T B b l w' := by
  have kb : ∀ {g : Nat} {o : Obj}, w.heap[g]? = some o → w'.heap[g]? = some o := fun {g o} h => (k.block g (by
    rcases Nat.lt_or_ge g w.heap.size with x | x
    · exact x
    · rw [Array.getElem?_eq_none x] at h; cases h)).trans h
  obtain ⟨p, h | ⟨g, cap, cur, fr, h0, h1, h2, h3, h4, h5⟩⟩ := h
  · exact ⟨p, .inl ⟨h.1, kb h.2⟩⟩
  · exact ⟨p, .inr ⟨g, cap, cur, fr, h0, h1, h2, kb h3, kb h4, h5⟩⟩
end Go.Wire
namespace Go.Proofs.YtkbboddibgfjbaaGreatDoor
open Go.RowKit Go.Wire
set_option maxHeartbeats 2000000 in
set_option maxRecDepth 100000 in
theorem bstring_told (B b g cap : Nat) (fr : Nat × Nat) (p : Value) (cur : Array Value) (l : List UInt8) (w : World) (h0 : l ≠ []) (hbg : B ≤ g) (hgb : g ≠ b) (hbk : w.heap[b]? = some (.cells #[p, .slice (some ⟨g, 0, none⟩) l.length cap] 230 (0, 0)))
    (hg : w.heap[g]? = some (.cells cur 5 fr)) (hnc : l.length ≤ cap) (hcm : cap ≤ maxLen) (hcs : cur.size = cap * 1) (htake : cur.toList.take (l.length * 1) = Lib.byteCells l) :
    Calls Tryz.prog 149 #[.pointer (some ⟨b, 0, none⟩)] w fun e w' => e = .returned (.string ⟨l.toArray⟩) ∧ w'.heap[b]? = some (.cells #[p, .slice (some ⟨g, 0, none⟩) l.length cap] 230 (0, 0)) ∧ (∃ fr', w'.heap[g]? = some (.cells cur 5 fr')) ∧ Wrote B (.pointer none) w w' := by
  have hl0 : l.length ≠ 0 := by simpa using h0
  have c1 : w.drew.cell? ⟨b, 1, none⟩ = some (.slice (some ⟨g, 0, none⟩) l.length cap) := by
    have : w.drew.heap[b]? = some (.cells #[p, .slice (some ⟨g, 0, none⟩) l.length cap] 230 (0, 0)) := hbk
    rw [Lib.cell_of_heap this]; rfl
  have hSD : (Builtin.unsafeSliceData_ #[44] 252 #[.slice (some ⟨g, 0, none⟩) l.length cap]).run Tryz.prog w.drew = .ok (.pointer (some ⟨g, 0, none⟩)) w.drew :=
    Lib.run_unsafeSliceData_row _ _ _ _ _ _ (by omega)
  have hUS : (Builtin.unsafeString_ #[252, 3] 9 #[.pointer (some ⟨g, 0, none⟩), .int .i64 l.length]).run Tryz.prog w.drew = .ok (.string ⟨l.toArray⟩) (w.drew.freeze ⟨g, 0, none⟩ l.length) := by
    refine Lib.run_unsafeString_row w.drew 252 3 9 5 underP5 cells5 g cur.size (by have hg' : w.drew.heap[g]? = some (.cells cur 5 fr) := hg; simp [World.shape?, hg']) l h0 (by omega) (by unfold maxLen at hcm; omega) ?_
    intro j x hx
    have hj : j < l.length := (List.getElem?_eq_some_iff.1 hx).1
    have hg' : w.drew.heap[g]? = some (.cells cur 5 fr) := hg
    rw [show (⟨g, 0, none⟩ : Addr).add j = ⟨g, j, none⟩ by unfold Addr.add; split <;> simp_all, Lib.cell_of_heap hg', ← Array.getElem?_toList]
    have h1 : (cur.toList.take (l.length * 1))[j]? = some (.int .u8 x.toNat) := by rw [htake]; simp [Lib.byteCells, hx]
    rwa [List.getElem?_take_of_lt (by omega)] at h1
  have HB : Hid ((w.drew.freeze ⟨g, 0, none⟩ l.length).heap[b]? = some (.cells #[p, .slice (some ⟨g, 0, none⟩) l.length cap] 230 (0, 0))) := (freeze_other _ ⟨g, 0, none⟩ _ b (fun e => hgb e.symm)).trans hbk
  have HG : Hid (∃ fr', (w.drew.freeze ⟨g, 0, none⟩ l.length).heap[g]? = some (.cells cur 5 fr')) := freeze_same (show w.drew.heap[g]? = _ from hg) _
  have HO : Hid (Wrote B (.pointer none) w (w.drew.freeze ⟨g, 0, none⟩ l.length)) := ⟨Lib.below_freeze (Below.drew (Below.refl B w)) (p := ⟨g, 0, none⟩) hbg _, fun k c T fr' _ hT hc => freeze_other _ ⟨g, 0, none⟩ _ k (fun e => hT (by
    have e : k = g := e
    rw [e, hg] at hc
    simp only [Option.some.injEq, Obj.cells.injEq] at hc
    exact hc.2.1.symm))⟩
  have mixed : Tryz.prog.follows Departure.mixedOrders = true := by kernel_rfl
  go_enter Tryz.func149, Tryz.ntmps149
  go_wp2
  go_region_o
  all_goals (go_wp2; go_ret; exact ⟨rfl, HB.out, HG.out, HO.out⟩)
set_option maxHeartbeats 400000 in
theorem all_told (B b : Nat) (l : List UInt8) (w : World) (hB : B ≤ w.heap.size) (h : Wt 230 B b l w) :
    Calls Tryz.prog 106 #[.pointer (some ⟨b, 0, none⟩)] w fun e w' => e = .returned (.string ⟨l.toArray⟩) ∧ Wt 230 B b l w' ∧ Wrote B (.pointer none) w w' := by
  have HS : Hid (Calls Tryz.prog 149 #[.pointer (some ⟨b, 0, none⟩)] w fun e w' => e = .returned (.string ⟨l.toArray⟩) ∧ Wt 230 B b l w' ∧ Wrote B (.pointer none) w w') := by
    obtain ⟨p, ⟨h0, hb⟩ | ⟨g, cap, cur, fr, h0, hbg, hgb, hb, hg, hnc, hcm, hcs, htake⟩⟩ := h
    · subst h0
      exact (bstring_nil b p w hb).mono fun e w' ⟨h1, h2, h3⟩ => ⟨h1, ⟨p, .inl ⟨rfl, by rw [h2]; exact hb⟩⟩, Wrote.of h3 hB⟩
    · exact (bstring_told B b g cap fr p cur l w h0 hbg hgb hb hg hnc hcm hcs htake).mono fun e w' ⟨h1, h2, ⟨fr', h4⟩, h3⟩ => ⟨h1, ⟨p, .inr ⟨g, cap, cur, fr', h0, hbg, hgb, h2, h4, hnc, hcm, hcs, htake⟩⟩, h3⟩
  go_enter Tryz.func106, Tryz.ntmps106
  go_wp2_with (go_at_call 149; refine HS.out.mono ?_; rintro e w1 ⟨rfl, h1, k1⟩)
  go_ret
  exact ⟨rfl, h1, k1⟩
end Go.Proofs.YtkbboddibgfjbaaGreatDoor
