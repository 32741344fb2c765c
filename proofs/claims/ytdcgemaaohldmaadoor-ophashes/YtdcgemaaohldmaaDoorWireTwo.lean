/- Several texts in one: WireRefDigits, WireRef, WireRefNum, WireBuilder, WireCopy, WireCount8, WireWriter. -/
import Derived.Test.YtdcgemaaohldmaaDoorWireOne
import Derived.Laws.ResultCell
import Derived.Lib.Builder
import Derived.Lib.MakeNoZero
import Derived.Laws.Externs
import Derived.Laws.IdiomCopy
import Derived.Lib.BufferWrite
import Derived.Laws.IdiomStrings
/- Contracts of a digit's letter and a number's digits, as the document has them. -/
namespace Go.Proofs.YtdcgemaaohldmaaDoor
open Go.RowKit Go.Wire
set_option maxHeartbeats 400000 in
theorem rdigit_any (d : Nat) (w : World) (hd : d < 16) :
    Calls Tryd.prog 64 #[.int .u64 d] w fun e w' => e = .returned (.string ⟨#[hexd d]⟩) ∧ Below w.heap.size w w' := by
  by_cases h : d < 10
  · have hu : Value.int .u8 (48 + (d : Int)) = Sha.byteV (hexd d) := by
      have hc : hexd d = UInt8.ofNat (48 + d) := by unfold hexd; rw [if_pos h]
      have : (UInt8.ofNat (48 + d)).toNat = 48 + d := by simp; omega
      unfold Sha.byteV; rw [hc, this]; go_num
    have HU : Hid (Value.int .u8 (48 + (d : Int)) = Sha.byteV (hexd d)) := hu
    clear hu
    generalize hexd d = c at HU
    go_enter Tryd.func64, Tryd.ntmps64
    go_wp2_with (refine ByteRow.to_string _ rfl 60 9 5 _ rfl [c] rfl (ByteRow.Has.one (Nat.le_refl _) _ _ HU.out 5) (by simp) underB under5 under9 ?_)
    go_ret
    exact ⟨rfl, (Below.refl _ _).alloc (Nat.le_refl _) _⟩
  · have hu : Value.int .u8 (87 + (d : Int)) = Sha.byteV (hexd d) := by
      have hc : hexd d = UInt8.ofNat (87 + d) := by unfold hexd; rw [if_neg h]
      have : (UInt8.ofNat (87 + d)).toNat = 87 + d := by simp; omega
      unfold Sha.byteV; rw [hc, this]; go_num
    have HU : Hid (Value.int .u8 (87 + (d : Int)) = Sha.byteV (hexd d)) := hu
    clear hu
    generalize hexd d = c at HU
    go_enter Tryd.func64, Tryd.ntmps64
    go_wp2_with (refine ByteRow.to_string _ rfl 60 9 5 _ rfl [c] rfl (ByteRow.Has.one (Nat.le_refl _) _ _ HU.out 5) (by simp) underB under5 under9 ?_)
    go_ret
    exact ⟨rfl, (Below.refl _ _).alloc (Nat.le_refl _) _⟩
theorem size_one (c : UInt8) (t : ByteArray) : ((⟨#[c]⟩ : ByteArray) ++ t).size = t.size + 1 := by
  rw [ByteArray.size_append, Nat.add_comm]; rfl
theorem num_rround {m n j N : Nat} {t : ByteArray} (hj : j < m) (hp : num (m - j) N ++ t.data.toList = num m n) : num (m - (j + 1)) (N / 16) ++ ((⟨#[hexd (N % 16)]⟩ : ByteArray) ++ t).data.toList = num m n := by
  obtain ⟨i, hi⟩ : ∃ i, m - j = i + 1 := ⟨m - j - 1, by omega⟩
  rw [← hp, hi, show m - (j + 1) = i by omega, num, List.append_assoc]
  simp
set_option maxHeartbeats 1000000 in
theorem rnum_any (n b : Nat) (w : World) (hn : n < 18446744073709551616) (hb : b ≤ 1000) :
    Calls Tryd.prog 45 #[.int .u64 n, .int .i64 b] w fun e w' => e = .returned (.string (numB (2 * min b 8) n)) ∧ Below w.heap.size w w' := by
  by_cases h8 : 8 < b
  · rw [show min b 8 = 8 by omega]
    have hb8 : (8 : Int) < b := by omega
    clear h8
    go_enter Tryd.func45, Tryd.ntmps45
    go_wp2_with fail
    go_loopw [0, 5, 7] (fun nv sv iv wr => ∃ (j N : Nat) (t : ByteArray), j ≤ 16 ∧ N < 18446744073709551616 ∧ iv = .int .i64 j ∧ nv = .int .u64 N ∧ sv = .string t ∧ t.size = j ∧ Hid (num (16 - j) N ++ t.data.toList = num 16 n) ∧ Hid (Below w.heap.size w wr)) (fun _ _ i _ => 16 - (intOf i).toNat)
    case atStart => exact ⟨0, n, ⟨#[]⟩, Nat.zero_le _, hn, rfl, rfl, rfl, rfl, (by simp : num 16 n ++ [] = num 16 n), Below.refl _ _⟩
    case round =>
      obtain ⟨j, N, t, hj, hN, rfl, rfl, rfl, ht, hp, HB⟩ := hrel
      by_cases hlt : j < 16
      · have hd : N % 16 < 16 := Nat.mod_lt _ (by decide)
        go_wp2_with (go_at_call 64; refine (rdigit_any (N % 16) _ hd).mono ?_; rintro e w1 ⟨rfl, k1⟩)
        go_roundw
        case rel => exact ⟨j + 1, N / 16, _, by omega, by omega, by go_num, by go_num, rfl, by rw [size_one, ht], num_rround hlt hp.out, HB.out.trans (Below.mono (by assumption) HB.out.size)⟩
        case measure => simp [intOf]; omega
      · have hj0 : j = 16 := by omega
        subst hj0
        have hl : t = numB 16 n := by
          have := hp.out
          rw [Nat.sub_self] at this
          exact ByteArray.ext (Array.toList_inj.1 (this.trans (numB_list 16 n).symm))
        go_wp2_with fail
        go_ret
        rw [← hl]
        exact ⟨rfl, HB.out⟩
  · rw [show min b 8 = b by omega]
    have hb8 : (b : Int) ≤ 8 := by omega
    go_enter Tryd.func45, Tryd.ntmps45
    go_wp2_with fail
    go_loopw [0, 5, 7] (fun nv sv iv wr => ∃ (j N : Nat) (t : ByteArray), j ≤ 2 * b ∧ N < 18446744073709551616 ∧ iv = .int .i64 j ∧ nv = .int .u64 N ∧ sv = .string t ∧ t.size = j ∧ Hid (num (2 * b - j) N ++ t.data.toList = num (2 * b) n) ∧ Hid (Below w.heap.size w wr)) (fun _ _ i _ => 2 * b - (intOf i).toNat)
    case atStart => exact ⟨0, n, ⟨#[]⟩, Nat.zero_le _, hn, rfl, rfl, rfl, rfl, (by simp : num (2 * b) n ++ [] = num (2 * b) n), Below.refl _ _⟩
    case round =>
      obtain ⟨j, N, t, hj, hN, rfl, rfl, rfl, ht, hp, HB⟩ := hrel
      by_cases hlt : j < 2 * b
      · have hd : N % 16 < 16 := Nat.mod_lt _ (by decide)
        go_wp2_with (go_at_call 64; refine (rdigit_any (N % 16) _ hd).mono ?_; rintro e w1 ⟨rfl, k1⟩)
        go_roundw
        case rel => exact ⟨j + 1, N / 16, _, by omega, by omega, by go_num, by go_num, rfl, by rw [size_one, ht], num_rround hlt hp.out, HB.out.trans (Below.mono (by assumption) HB.out.size)⟩
        case measure => simp [intOf]; omega
      · have hj0 : j = 2 * b := by omega
        subst hj0
        have hl : t = numB (2 * b) n := by
          have := hp.out
          rw [Nat.sub_self] at this
          exact ByteArray.ext (Array.toList_inj.1 (this.trans (numB_list (2 * b) n).symm))
        go_wp2_with fail
        go_ret
        rw [← hl]
        exact ⟨rfl, HB.out⟩
end Go.Proofs.YtdcgemaaohldmaaDoor
/- Contracts of the document's reader: a value, and the reader behind each call. -/
namespace Go.Wire
open Go.RowKit
/-- A reader as a value. -/
def St.v (q : St) : Value := .agg #[.string q.s, .int .i64 q.pos, .int .i64 q.err]
theorem results_cell2_row {P : Program} {fn : Func} {p u : Tmp} {ty : TypeId} (h : fn.results = #[.cell p ty, .tmp u]) (tmps : Array Value) (w : World) (g : Nat) (t : TypeId) (cs : Array Value) (fr : Nat × Nat) (d : TypeDesc)
    (hp : tmps.getD p undef = .pointer (some ⟨g, 0, none⟩)) (hg : w.heap[g]? = some (.cells cs t fr))
    (hu : P.underlying ty = some d) (hd : (match d with | .struct _ | .array _ _ => true | _ => false) = true) (hi : (P.info? ty).map (·.size) = some cs.size) :
    (results fn tmps).run P w = .ok (.tuple #[.agg cs, tmps.getD u undef]) w := by
  rw [results_cell_tmp h, hp]
  simp [asAddr, Result.andThen, run_loadVar_row w g t ty cs fr d hg hu hd hi]
theorem cells3 {w : World} {g : Nat} {a b c : Value} {T : TypeId} (h : w.heap[g]? = some (.cells #[a, b, c] T (0, 0))) :
    w.cell? ⟨g, 0, none⟩ = some a ∧ w.cell? ⟨g, 1, none⟩ = some b ∧ w.cell? ⟨g, 2, none⟩ = some c ∧ w.frozen? ⟨g, 0, none⟩ = false ∧ w.frozen? ⟨g, 1, none⟩ = false ∧ w.frozen? ⟨g, 2, none⟩ = false :=
  ⟨cell_of_row _ _ _ _ _ _ h, cell_of_row _ _ _ _ _ _ h, cell_of_row _ _ _ _ _ _ h, frozen_of_row _ _ _ _ _ h, frozen_of_row _ _ _ _ _ h, frozen_of_row _ _ _ _ _ h⟩
theorem set3 {w : World} {g : Nat} {a b c : Value} {T : TypeId} (h : w.heap[g]? = some (.cells #[a, b, c] T (0, 0))) (x y z : Value) :
    (((w.setCell ⟨g, 0, none⟩ x).setCell ⟨g, 1, none⟩ y).setCell ⟨g, 2, none⟩ z).heap[g]? = some (.cells #[x, y, z] T (0, 0)) := by
  have h1 : (w.setCell ⟨g, 0, none⟩ x).heap[g]? = some (.cells #[x, b, c] T (0, 0)) := by rw [heap_setCell_same _ _ _ _ _ _ h]; rfl
  have h2 : ((w.setCell ⟨g, 0, none⟩ x).setCell ⟨g, 1, none⟩ y).heap[g]? = some (.cells #[x, y, c] T (0, 0)) := by rw [heap_setCell_same _ _ _ _ _ _ h1]; rfl
  rw [heap_setCell_same _ _ _ _ _ _ h2]; rfl
theorem below3 {B g : Nat} {w w1 : World} (h : Below B w w1) (hg : B ≤ g) (x y z : Value) : Below B w (((w1.setCell ⟨g, 0, none⟩ x).setCell ⟨g, 1, none⟩ y).setCell ⟨g, 2, none⟩ z) :=
  ((h.setCell (p := ⟨g, 0, none⟩) hg x).setCell (p := ⟨g, 1, none⟩) hg y).setCell (p := ⟨g, 2, none⟩) hg z
theorem kept_block {w w1 : World} {g : Nat} {o : Obj} (h : w.heap[g]? = some o) (k : Below w.heap.size w w1) : w1.heap[g]? = some o :=
  (k.block g (by
    rcases Nat.lt_or_ge g w.heap.size with x | x
    · exact x
    · rw [Array.getElem?_eq_none x] at h; cases h)).trans h
theorem kept_alloc {w : World} {g : Nat} {o : Obj} (h : w.heap[g]? = some o) (C : Obj) : (w.alloc C).heap[g]? = some o :=
  kept_block h ((Below.refl _ _).alloc (Nat.le_refl _) C)
/-- What two new blocks are behind a call. -/
theorem two_below {w w1 : World} {A B : Obj} (k : Below ((w.alloc A).alloc B).heap.size ((w.alloc A).alloc B) w1) : w1.heap[w.heap.size]? = some A ∧ w1.heap[w.heap.size + 1]? = some B ∧ Below w.heap.size w w1 := by
  have hz : ((w.alloc A).alloc B).heap.size = w.heap.size + 2 := by simp
  refine ⟨(k.block _ (by omega)).trans (heap_alloc2_old _ _ _), (k.block _ (by omega)).trans (heap_alloc2_new _ _ _), ?_⟩
  exact (((Below.refl w.heap.size w).alloc (Nat.le_refl _) A).alloc (by simp) B).trans (k.mono (by omega))
end Go.Wire
namespace Go.Proofs.YtdcgemaaohldmaaDoor
open Go.RowKit Go.Wire
end Go.Proofs.YtdcgemaaohldmaaDoor
/- The contract of the document's reader's numbers. -/
namespace Go.Proofs.YtdcgemaaohldmaaDoor
open Go.RowKit Go.Wire
end Go.Proofs.YtdcgemaaohldmaaDoor
/- Contracts of the library's strings.Builder where it is the one field of a writer: it is walked in the library's own text. -/
namespace Go.Wire
open Go.RowKit
/-- Block b is a writer of the bytes l. -/
def Wr (T B b : Nat) (l : List UInt8) (w : World) : Prop :=
  B ≤ b ∧ ∃ p v, (p = .pointer none ∨ p = .pointer (some ⟨b, 0, none⟩)) ∧ w.heap[b]? = some (.cells #[p, v] T (0, 0)) ∧ w.ownsRow B 5 1 v l.length (Lib.byteCells l) ∧ v.ownBlock ≠ some b ∧ (l = [] → v = .slice none 0 0)
theorem Wr.below {T B b : Nat} {l : List UInt8} {w w' : World} (h : Wr T B b l w) (k : Below w.heap.size w w') : Wr T B b l w' := by
  obtain ⟨hB, p, v, hp, hb, ho, hn, he⟩ := h
  have lt : ∀ {g : Nat} {o : Obj}, w.heap[g]? = some o → w'.heap[g]? = some o := fun {g o} h => (k.block g (by
    rcases Nat.lt_or_ge g w.heap.size with x | x
    · exact x
    · rw [Array.getElem?_eq_none x] at h; cases h)).trans h
  refine ⟨hB, p, v, hp, lt hb, ?_, hn, he⟩
  obtain ⟨h0, h1⟩ := ho
  refine ⟨h0, ?_⟩
  rcases h1 with h1 | ⟨g, cap, cur, h1, h2, h3, h4⟩
  · exact .inl h1
  · exact .inr ⟨g, cap, cur, h1, h2, lt h3, h4⟩
theorem Wr.fresh (T : Nat) (w : World) : Wr T w.heap.size w.heap.size [] (w.alloc (.cells #[.pointer none, .slice none 0 0] T (0, 0))) :=
  ⟨Nat.le_refl _, _, _, .inl rfl, heap_alloc_new _ _, World.ownsRow_nil _ _ _ _, (by intro h; cases h), fun _ => rfl⟩
end Go.Wire
namespace Go.Proofs.YtdcgemaaohldmaaDoor
open Go.RowKit Go.Wire
theorem sizeBuilder : (Tryd.prog.info? 62).map (·.size) = some 2 := by kernel_rfl
theorem liesBuilder : liesAt Tryd.prog Tryd.prog.depth 64 (2 / Tryd.prog.cellsOf 64) 0 62 1 = true := by kernel_rfl
theorem underPB : Tryd.prog.underlying 59 = some (.pointer 62) := by kernel_rfl
theorem underUP : Tryd.prog.underlying 109 = some .unsafePointer := by kernel_rfl
theorem cells5 : Tryd.prog.cellsOf 5 = 1 := by kernel_rfl
theorem neB5 : (64 : TypeId) ≠ 5 := by decide
set_option maxHeartbeats 1000000 in
set_option maxRecDepth 100000 in
theorem copyCheck_used (b : Nat) (w : World) (h0 : w.cell? ⟨b, 0, none⟩ = some (.pointer (some ⟨b, 0, none⟩))) :
    Calls Tryd.prog 78 #[.pointer (some ⟨b, 0, none⟩)] w fun e w' => e = .returned (.tuple #[]) ∧ w' = w := by
  obtain ⟨j, hj, _⟩ := Option.map_eq_some_iff.1 sizeBuilder
  go_enter Tryd.func78, Tryd.ntmps78
  go_wp2
  rw [Lib.run_neq_ptr_same w _ underPB hj]
  go_wp2
  go_end0
  exact ⟨rfl, rfl⟩
set_option maxHeartbeats 1000000 in
set_option maxRecDepth 100000 in
theorem copyCheck_fresh (b : Nat) (w : World) (h0 : w.cell? ⟨b, 0, none⟩ = some (.pointer none)) (hsh : w.shape? b = some (64, 2)) (hfz : w.frozen? ⟨b, 0, none⟩ = false) :
    Calls Tryd.prog 78 #[.pointer (some ⟨b, 0, none⟩)] w fun e w' => e = .returned (.tuple #[]) ∧ w' = w.setCell ⟨b, 0, none⟩ (.pointer (some ⟨b, 0, none⟩)) := by
  obtain ⟨j, hj, hjs⟩ := Option.map_eq_some_iff.1 sizeBuilder
  go_enter Tryd.func78, Tryd.ntmps78
  go_wp2
  rw [Lib.run_to_unsafe w ⟨b, 0, none⟩ underPB underUP hj (by rw [hjs]; decide) hsh (Nat.zero_lt_succ 1)]
  simp only [Result.andThen]
  rw [Oper.upon_value]
  go_wp2
  rw [run_callFunc_extern Tryd.func83 (by kernel_rfl) (by kernel_rfl) (by kernel_rfl) (e := Extern.AbiNoEscape.same) (by kernel_rfl)]
  rw [Lib.run_noEscape]
  simp only [Result.andThen]
  rw [Oper.upon_value]
  go_wp2
  rw [Lib.run_from_unsafe w ⟨b, 0, none⟩ underUP underPB hj hsh liesBuilder]
  simp only [Result.andThen]
  rw [Oper.upon_value]
  go_wp2
  go_end0
  exact ⟨rfl, rfl⟩
theorem copyCheck_any (B b : Nat) (l : List UInt8) (w : World) (h : Wr 64 B b l w) :
    Calls Tryd.prog 78 #[.pointer (some ⟨b, 0, none⟩)] w fun e w' => e = .returned (.tuple #[]) ∧ (∃ v, w'.heap[b]? = some (.cells #[.pointer (some ⟨b, 0, none⟩), v] 64 (0, 0)) ∧ w'.ownsRow B 5 1 v l.length (Lib.byteCells l) ∧ v.ownBlock ≠ some b ∧ (l = [] → v = .slice none 0 0)) ∧ Below B w w' := by
  obtain ⟨hB, p, v, hp, hb, ho, hn, he⟩ := h
  have hat : Lib.BuilderAt 64 5 B b p (Lib.byteCells l) w := ⟨hB, v, hb, by rw [Lib.byteCells_length]; exact ho, hn⟩
  rcases hp with rfl | rfl
  · refine (copyCheck_fresh b w hat.cell0 hat.shape hat.frozen0).mono ?_
    rintro e w' ⟨rfl, rfl⟩
    have hb' : (w.setCell ⟨b, 0, none⟩ (.pointer (some ⟨b, 0, none⟩))).heap[b]? = some (.cells #[.pointer (some ⟨b, 0, none⟩), v] 64 (0, 0)) := by rw [heap_setCell_same _ _ _ _ _ _ hb]; rfl
    obtain ⟨-, v', h1, h2, h3⟩ := hat.used (.pointer (some ⟨b, 0, none⟩))
    rw [hb'] at h1
    obtain rfl : v = v' := by simpa using h1
    rw [Lib.byteCells_length] at h2
    exact ⟨rfl, ⟨v, hb', h2, h3, he⟩, (Below.refl B w).setCell (p := ⟨b, 0, none⟩) hB _⟩
  · refine (copyCheck_used b w hat.cell0).mono ?_
    rintro e w' ⟨rfl, rfl⟩
    exact ⟨rfl, ⟨v, hb, ho, hn, he⟩, Below.refl B _⟩
set_option maxHeartbeats 2000000 in
set_option maxRecDepth 100000 in
theorem writeString_any (B b : Nat) (l : List UInt8) (s : ByteArray) (w : World) (h : Wr 64 B b l w) (hlen : l.length + s.size ≤ 140737488355328) (hBw : B ≤ w.heap.size) :
    Calls Tryd.prog 70 #[.pointer (some ⟨b, 0, none⟩), .string s] w fun e w' => e = .returned (.tuple #[.int .i64 s.size, .nilIface]) ∧ Wr 64 B b (l ++ s.data.toList) w' ∧ Below B w w' := by
  have hB := h.1
  obtain ⟨i0, hi, hz0, hz1, hz2⟩ := info_parts info5
  go_enter Tryd.func70, Tryd.ntmps70
  go_wp2_with (go_at_call 78; refine (copyCheck_any B b l _ h).mono ?_)
  rintro e w1 ⟨rfl, ⟨v, hbk, hown, hne, hnil⟩, hb1⟩
  have c0 : w1.cell? ⟨b, 0, none⟩ = some (.pointer (some ⟨b, 0, none⟩)) := by rw [Lib.cell_of_heap hbk]; rfl
  have c1 : w1.cell? ⟨b, 1, none⟩ = some v := by rw [Lib.cell_of_heap hbk]; rfl
  go_wp2_with (at_builtin; refine Lib.wpList_append_own_string _ rfl _ _ 60 9 rfl B 5 i0 underB under9 hi hz0 hz1 hz2 _ _ _ rfl hown s rfl ?c3 ?c4 ?c5 ?_)
  case c3 => unfold maxLen; omega
  case c4 => omega
  case c5 => have := hb1.size; omega
  intro v' w2 hown' hgrow hiff
  have hlt : b < w1.heap.size := by
    rcases Nat.lt_or_ge b w1.heap.size with h' | h'
    · exact h'
    · simp [Array.getElem?_eq_none h'] at hbk
  have hb2 : w2.heap[b]? = some (.cells #[.pointer (some ⟨b, 0, none⟩), v] 64 (0, 0)) := by
    rw [hgrow.block b hlt (fun e => hne e.symm)]
    exact hbk
  have d0 : w2.cell? ⟨b, 0, none⟩ = some (.pointer (some ⟨b, 0, none⟩)) := by rw [Lib.cell_of_heap hb2]; rfl
  have d1 : w2.cell? ⟨b, 1, none⟩ = some v := by rw [Lib.cell_of_heap hb2]; rfl
  have f1 : w2.frozen? ⟨b, 1, none⟩ = false := Lib.frozen_of_heap hb2 1
  have HI : Hid (v' = .slice none 0 0 ↔ v = .slice none 0 0 ∧ s = ByteArray.empty) := hiff
  have HV : Hid (l = [] → v = .slice none 0 0) := hnil
  clear hiff hnil
  obtain ⟨ao, n', cap, rfl⟩ : ∃ ao n' cap, v' = .slice ao n' cap := by
    rcases hown'.2 with ⟨hv, _⟩ | ⟨g, cap, cur, hv, _⟩
    · exact ⟨_, _, _, hv⟩
    · exact ⟨_, _, _, hv⟩
  go_wp2
  go_ret2
  refine ⟨rfl, ?_, ?_⟩
  · obtain ⟨-, v2, h1, h2, h3⟩ := Lib.BuilderAt.put (T := 64) (e := 5) hB hb2 (v' := .slice ao n' cap) (bs' := Lib.byteCells (l ++ s.data.toList)) (by rw [Lib.byteCells_length, List.length_append, Lib.byteCells_append]; exact hown') neB5
    have hb3 : (w2.setCell ⟨b, 1, none⟩ (.slice ao n' cap)).heap[b]? = some (.cells #[.pointer (some ⟨b, 0, none⟩), .slice ao n' cap] 64 (0, 0)) := by rw [heap_setCell_same _ _ _ _ _ _ hb2]; rfl
    rw [hb3] at h1
    obtain rfl : Value.slice ao n' cap = v2 := by simpa using h1
    rw [Lib.byteCells_length] at h2
    refine ⟨hB, _, _, .inr rfl, hb3, h2, h3, fun h0 => ?_⟩
    obtain ⟨ha, hs0⟩ := List.append_eq_nil_iff.1 h0
    exact HI.out.2 ⟨HV.out ha, ByteArray.ext (Array.toList_inj.1 hs0)⟩
  · exact (hb1.grown hgrow (by have := hb1.size; omega) (fun k hk => (hown.lt k hk).1)).setCell (p := ⟨b, 1, none⟩) hB _
end Go.Proofs.YtdcgemaaohldmaaDoor
/- A string that is copied over a row of bytes, as far as the row goes; the noughts behind it; of no program. -/
namespace Go.Wire
open Go.RowKit Go.Lib
theorem run_copy_row_min {P : Program} (w : World) (dT sT ty elem : TypeId) (g dLen dCap m : Nat) (s : ByteArray) (cur : Array Value) (t : TypeId)
    (hu : P.underlying dT = some (.slice elem)) (hs : (P.info? elem).map (·.size) = some 1) (hg : w.heap[g]? = some (.cells cur t (0, 0))) (hm : min s.size dLen = m) (hfit : m ≤ cur.size) :
    (Builtin.copy_ #[dT, sT] ty #[.slice (some ⟨g, 0, none⟩) dLen dCap, .string s]).run P w =
      .ok (goInt m) (w.setRow g (byteCells (s.data.toList.take m) ++ cur.toList.drop m).toArray) := by
  have hlen : (byteCells (s.data.toList.take m)).length = m := by
    rw [byteCells_length, List.length_take, ← size_eq]; omega
  have hst := run_storeCells_at P g 0 t (byteCells (s.data.toList.take m)) 0 cur w hg (by rw [hlen]; simpa using hfit) (byteCells_one _)
  have hmin : Nat.min s.size dLen = m := hm
  have htk : List.take m (List.map (fun b : UInt8 => Value.int IntKind.u8 (b.toNat : Int)) s.data.toList) = byteCells (s.data.toList.take m) := by
    rw [← List.map_take]; rfl
  rw [hlen] at hst
  simp only [Nat.add_zero, List.take_zero, List.nil_append, Nat.zero_add] at hst
  cases hq : P.info? elem with
  | none => simp [hq] at hs
  | some i =>
    simp [Builtin.copy_, run_underlying hu, Builtin.lenOf, Builtin.firstCells, sizeOf, typeInfo, hq, hmin]
    rw [htk, hst]
    simp [Result.andThen]
theorem wpList_copy_row_min {P : Program} {w : World} {ops : Array Oper} {rest : List Oper} {o : Oper} {a : Act} {Q : Exit → Act → World → Prop} (hgd : o.guard = none) (d s : Operand) (dT sT : TypeId)
    (ho : o.op = .call { callee := .builtin .copy, args := #[d, s], argTypes := #[dT, sT] }) (elem : TypeId) (hu : P.underlying dT = some (.slice elem)) (hsz : (P.info? elem).map (·.size) = some 1)
    (g dLen dCap m : Nat) (x : ByteArray) (hd : a.eval d = .slice (some ⟨g, 0, none⟩) dLen dCap) (hs : a.eval s = .string x)
    (cur : Array Value) (t : TypeId) (hg : w.heap[g]? = some (.cells cur t (0, 0))) (hm : min x.size dLen = m) (hfit : m ≤ cur.size)
    (h : wpList P ops Q rest (a.put o.dst (goInt m)) (w.setRow g (byteCells (x.data.toList.take m) ++ cur.toList.drop m).toArray)) : wpList P ops Q (o :: rest) a w := by
  refine wpList_plain hgd fun K hK => ?_
  have hrun := run_copy_row_min (P := P) w dT sT o.type elem g dLen dCap m x cur t hu hsz hg hm hfit
  unfold Oper.wp
  simp [execOp, ho, resolve, invoke, builtin, hd, hs, hrun, Result.andThen]
  exact hK _ _ h
/-- A digest's bytes: cut at 32, or filled up. -/
def pad (l : List UInt8) : List UInt8 := l.take 32 ++ List.replicate (32 - l.length) 0
theorem pad_length (l : List UInt8) : (pad l).length = 32 := by
  simp [pad]; omega
def bcells (l : List UInt8) : Array Value := (byteCells l).toArray
def zeros32 : List UInt8 := List.replicate 32 0
theorem bcells_size (l : List UInt8) : (bcells l).size = l.length := by simp [bcells, byteCells]
theorem pad_row (s : ByteArray) (m : Nat) (hm : min s.size 32 = m) : (byteCells (s.data.toList.take m) ++ (bcells zeros32).toList.drop m).toArray = bcells (pad s.data.toList) := by
  have h1 : s.data.toList.length = s.size := by simp
  have h2 : s.data.toList.take m = s.data.toList.take 32 := by
    rcases Nat.le_total s.size 32 with h | h
    · rw [List.take_of_length_le (by omega), List.take_of_length_le (by omega)]
    · rw [← hm, Nat.min_eq_right h]
  have h3 : (byteCells zeros32).drop m = byteCells (List.replicate (32 - s.data.toList.length) 0) := by
    simp only [byteCells, zeros32, List.map_replicate, List.drop_replicate]
    congr 1
    omega
  unfold bcells pad
  rw [h2, byteCells_append, h3]
theorem bcells_has {base g : Nat} {w : World} {l : List UInt8} {e : TypeId} (hh : w.heap[g]? = some (.cells (bcells l) e (0, 0))) (hb : base ≤ g) : ByteRow.Has base w (.slice (some ⟨g, 0, none⟩) l.length l.length) l := by
  have hlt : g < w.heap.size := by
    rcases Nat.lt_or_ge g w.heap.size with h | h
    · exact h
    · rw [Array.getElem?_eq_none h] at hh; cases hh
  refine .inr ⟨g, l.length, rfl, hb, hlt, Nat.le_refl _, fun j c hj => ?_, fun j hj => ?_⟩
  · rw [cell_of_row _ _ _ _ _ _ hh]; simp [bcells, byteCells, hj, Sha.byteV]
  · exact ⟨by rw [cell_of_row _ _ _ _ _ _ hh, Array.getElem?_eq_getElem (by rw [bcells_size]; exact hj)]; rfl, frozen_of_row _ _ _ _ _ hh⟩
theorem below_row {B : Nat} {w w1 : World} (h : Below B w w1) {g : Nat} (hg : B ≤ g) (cs : Array Value) : Below B w (w1.setRow g cs) :=
  h.trans ⟨rfl, rfl, rfl, by simp, fun k hk => setRow_other _ _ _ _ (by omega)⟩
theorem pad_world {w W : World} {T : TypeId} {s : ByteArray} {m : Nat} (hm : min s.size 32 = m) (hW : (w.alloc (.cells (bcells zeros32) T (0, 0))).setRow w.heap.size (byteCells (s.data.toList.take m) ++ (bcells zeros32).toList.drop m).toArray = W) :
    ByteRow.Has w.heap.size W (.slice (some ⟨w.heap.size, 0, none⟩) 32 32) (pad s.data.toList) ∧ Below w.heap.size w W := by
  rw [pad_row s m hm] at hW
  subst hW
  have h1 := bcells_has (setRow_heap _ _ _ (bcells (pad s.data.toList)) _ _ (heap_alloc_new w (.cells (bcells zeros32) T (0, 0)))) (Nat.le_refl w.heap.size)
  rw [pad_length] at h1
  exact ⟨h1, below_row ((Below.refl _ _).alloc (Nat.le_refl _) _) (Nat.le_refl _) _⟩
end Go.Wire
/- The contract of a text's count. -/
namespace Go.Proofs.YtdcgemaaohldmaaDoor
open Go.RowKit Go.Wire
set_option maxHeartbeats 400000 in
theorem count8_any (s : ByteArray) (w : World) (hs : s.size ≤ maxLen) :
    Calls Tryd.prog 59 #[.string s] w fun e w' => e = .returned (.string (numB 8 s.size)) ∧ Below w.heap.size w w' := by
  unfold maxLen at hs
  have HN : Hid (∀ w : World, Calls Tryd.prog 58 #[.int .u64 s.size, .int .i64 4] w fun e w' => e = .returned (.string (numB 8 s.size)) ∧ Below w.heap.size w w') := fun w => number_mid s.size 4 w (by omega) (by decide)
  generalize numB 8 s.size = t at HN
  go_enter Tryd.func59, Tryd.ntmps59
  go_wp2_with (go_at_call 58; refine (HN.out _).mono ?_; rintro e w1 ⟨rfl, k1⟩)
  go_ret
  exact ⟨rfl, by assumption⟩
end Go.Proofs.YtdcgemaaohldmaaDoor
/- Contracts of the writer: one that is there, and a nil one. -/
namespace Go.Wire
open Go.RowKit
/-- The pointer v is nil, or leads to a writer of the bytes l. -/
def WAt (T B : Nat) (v : Value) (l : List UInt8) (w : World) : Prop := v = .pointer none ∨ ∃ b, v = .pointer (some ⟨b, 0, none⟩) ∧ Wr T B b l w
theorem WAt.below {T B : Nat} {v : Value} {l : List UInt8} {w w' : World} (h : WAt T B v l w) (k : Below w.heap.size w w') : WAt T B v l w' := by
  rcases h with h | ⟨b, h, hr⟩
  · exact .inl h
  · exact .inr ⟨b, h, hr.below k⟩
end Go.Wire
namespace Go.Proofs.YtdcgemaaohldmaaDoor
open Go.RowKit Go.Wire
set_option maxHeartbeats 400000 in
theorem wbytes_any (B : Nat) (v : Value) (l : List UInt8) (s : ByteArray) (w : World) (h : WAt 64 B v l w) (hl : v = .pointer none ∨ l.length + s.size ≤ 140737488355328) (hB : B ≤ w.heap.size) :
    Calls Tryd.prog 57 #[v, .string s] w fun e w' => e = .returned (.tuple #[]) ∧ WAt 64 B v (l ++ s.data.toList) w' ∧ Below B w w' := by
  rcases h with rfl | ⟨b, rfl, hr⟩
  · go_enter Tryd.func57, Tryd.ntmps57
    go_wp2
    go_end0
    exact ⟨rfl, .inl rfl, Below.refl _ _⟩
  · have hl2 : l.length + s.size ≤ 140737488355328 := hl.resolve_left (by intro x; cases x)
    clear hl
    go_enter Tryd.func57, Tryd.ntmps57
    go_wp2_with (go_at_call 70; refine (writeString_any B b l s _ hr hl2 hB).mono ?_; rintro e w1 ⟨rfl, h1, k1⟩)
    go_end0
    exact ⟨rfl, .inr ⟨b, rfl, by assumption⟩, by assumption⟩
set_option maxHeartbeats 400000 in
theorem wnumber_any (B : Nat) (v : Value) (l : List UInt8) (n : Nat) (k : Int) (w : World) (h : WAt 64 B v l w) (hl : v = .pointer none ∨ l.length + 16 ≤ 140737488355328) (hB : B ≤ w.heap.size) (hn : n < 18446744073709551616) :
    Calls Tryd.prog 31 #[v, .int .u64 n, .int .i64 k] w fun e w' => e = .returned (.tuple #[]) ∧ WAt 64 B v (l ++ num (2 * (min (max k 0) 8).toNat) n) w' ∧ Below B w w' := by
  have HN : Hid (∀ w : World, Calls Tryd.prog 58 #[.int .u64 n, .int .i64 k] w fun e w' => e = .returned (.string (numB (2 * (min (max k 0) 8).toNat) n)) ∧ Below w.heap.size w w') := fun w => number_any n k w hn
  have hz := numB_size (2 * (min (max k 0) 8).toNat) n
  have he := numB_list (2 * (min (max k 0) 8).toNat) n
  rw [← he]
  have hz2 : (numB (2 * (min (max k 0) 8).toNat) n).size ≤ 16 := by rw [hz]; omega
  generalize numB (2 * (min (max k 0) 8).toNat) n = t at HN hz2
  clear he hz
  have hl2 : v = .pointer none ∨ l.length + t.size ≤ 140737488355328 := hl.imp id (fun x => by omega)
  clear hl
  go_enter Tryd.func31, Tryd.ntmps31
  go_wp2_with (go_at_call 58; refine (HN.out _).mono ?_)
  rintro e w1 ⟨rfl, k1⟩
  have h1 := h.below k1
  have hB1 := Nat.le_trans hB k1.size
  go_wp2_with (go_at_call 57; refine (wbytes_any B v l t _ h1 hl2 hB1).mono ?_)
  rintro e w2 ⟨rfl, h2, k2⟩
  go_wp2
  go_end0
  exact ⟨rfl, h2, (k1.mono hB).trans k2⟩
set_option maxHeartbeats 400000 in
theorem wcount_any (B : Nat) (v : Value) (l : List UInt8) (k : Int) (w : World) (h : WAt 64 B v l w) (hl : v = .pointer none ∨ l.length + 16 ≤ 140737488355328) (hB : B ≤ w.heap.size) (hk : k ≤ 9223372036854775807) :
    Calls Tryd.prog 36 #[v, .int .i64 k] w fun e w' => e = .returned (.tuple #[]) ∧ WAt 64 B v (l ++ num 8 (max k 0).toNat) w' ∧ Below B w w' := by
  have HN : Hid (∀ n : Nat, n < 18446744073709551616 → Calls Tryd.prog 31 #[v, .int .u64 n, .int .i64 4] w fun e w' => e = .returned (.tuple #[]) ∧ WAt 64 B v (l ++ num 8 n) w' ∧ Below B w w') := fun n hn => wnumber_any B v l n 4 w h hl hB hn
  clear h hl hB
  by_cases h0 : k < 0
  · rw [show (max k 0).toNat = 0 by omega]
    go_enter Tryd.func36, Tryd.ntmps36
    go_wp2_with (go_at_call 31; refine (HN.out 0 (by decide)).mono ?_; rintro e w1 ⟨rfl, h1, k1⟩)
    go_end0
    exact ⟨rfl, by assumption, by assumption⟩
  · obtain ⟨n, rfl⟩ : ∃ n : Nat, k = n := ⟨k.toNat, by omega⟩
    rw [show (max (n : Int) 0).toNat = n by omega]
    go_enter Tryd.func36, Tryd.ntmps36
    go_wp2_with (go_at_call 31; refine (HN.out n (by omega)).mono ?_; rintro e w1 ⟨rfl, h1, k1⟩)
    go_end0
    exact ⟨rfl, by assumption, by assumption⟩
set_option maxHeartbeats 400000 in
theorem wtext_any (B : Nat) (v : Value) (l : List UInt8) (s : ByteArray) (w : World) (h : WAt 64 B v l w) (hl : v = .pointer none ∨ l.length + s.size + 16 ≤ 140737488355328) (hB : B ≤ w.heap.size) (hs : s.size ≤ maxLen) :
    Calls Tryd.prog 34 #[v, .string s] w fun e w' => e = .returned (.tuple #[]) ∧ WAt 64 B v (l ++ (num 8 s.size ++ s.data.toList)) w' ∧ Below B w w' := by
  have HN : Hid (∀ w : World, Calls Tryd.prog 59 #[.string s] w fun e w' => e = .returned (.string (numB 8 s.size)) ∧ Below w.heap.size w w') := fun w => count8_any s w hs
  have hz := numB_size 8 s.size
  have he := numB_list 8 s.size
  rw [← he, ← List.append_assoc]
  generalize numB 8 s.size = t at HN hz
  clear he
  have hl1 : v = .pointer none ∨ l.length + t.size ≤ 140737488355328 := hl.imp id (fun x => by omega)
  have hl2 : v = .pointer none ∨ (l ++ t.data.toList).length + s.size ≤ 140737488355328 := hl.imp id (fun x => by simp only [List.length_append, Array.length_toList]; show l.length + t.size + s.size ≤ _; omega)
  clear hl
  go_enter Tryd.func34, Tryd.ntmps34
  go_wp2_with (go_at_call 59; refine (HN.out _).mono ?_)
  rintro e w1 ⟨rfl, k1⟩
  have h1 := h.below k1
  have hB1 := Nat.le_trans hB k1.size
  go_wp2_with (go_at_call 57; refine (wbytes_any B v l t _ h1 hl1 hB1).mono ?_)
  rintro e w2 ⟨rfl, h2, k2⟩
  have hB2 := Nat.le_trans hB1 k2.size
  go_wp2_with (go_at_call 57; refine (wbytes_any B v _ s _ h2 hl2 hB2).mono ?_)
  rintro e w3 ⟨rfl, h3, k3⟩
  go_wp2
  go_end0
  exact ⟨rfl, h3, ((k1.mono hB).trans k2).trans k3⟩
theorem size5 : (Tryd.prog.info? 5).map (·.size) = some 1 := by kernel_rfl
theorem zero32 : (Tryd.prog.info? 86).map (fun i => (i.zero, i.size)) = some (some (.agg (bcells zeros32)), 32) := by kernel_rfl
set_option maxHeartbeats 400000 in
theorem whash_any (B : Nat) (v : Value) (l : List UInt8) (s : ByteArray) (w : World) (h : WAt 64 B v l w) (hl : v = .pointer none ∨ l.length + 32 ≤ 140737488355328) (hB : B ≤ w.heap.size) :
    Calls Tryd.prog 35 #[v, .string s] w fun e w' => e = .returned (.tuple #[]) ∧ WAt 64 B v (l ++ pad s.data.toList) w' ∧ Below B w w' := by
  have hz := (zero_of_info zero32).1
  have HZ : Hid ((bcells zeros32).size = 32) := by rw [Hid, bcells_size]; rfl
  obtain ⟨m, hm⟩ : ∃ m, min s.size 32 = m := ⟨_, rfl⟩
  have HM : Hid (min s.size 32 = m ∧ m ≤ 32) := ⟨hm, by omega⟩
  clear hm
  go_enter Tryd.func35, Tryd.ntmps35
  have hpn := pad_length s.data.toList
  have hp0 : pad s.data.toList ≠ [] := by intro x; rw [x] at hpn; simp at hpn
  have hpz : (⟨(pad s.data.toList).toArray⟩ : ByteArray).size = 32 := by show (pad s.data.toList).toArray.size = 32; rw [List.size_toArray, hpn]
  have HP : Hid (∀ W, (w.alloc (.cells (bcells zeros32) 86 (0, 0))).setRow w.heap.size (Lib.byteCells (s.data.toList.take m) ++ (bcells zeros32).toList.drop m).toArray = W → ByteRow.Has w.heap.size W (.slice (some ⟨w.heap.size, 0, none⟩) 32 32) (pad s.data.toList) ∧ Below w.heap.size w W) := fun W hW => pad_world HM.out.1 hW
  clear hpn
  generalize pad s.data.toList = P at hp0 hpz HP
  have hl2 : v = .pointer none ∨ l.length + (⟨P.toArray⟩ : ByteArray).size ≤ 140737488355328 := hl.imp id (fun x => by rw [hpz]; exact x)
  clear hl hpz
  go_wp2_with (first
    | (refine wpList_copy_row_min rfl _ _ 60 9 rfl 5 underB size5 w.heap.size 32 32 m s rfl rfl (bcells zeros32) 86 (heap_alloc_new _ _) HM.out.1 (by rw [HZ.out]; exact HM.out.2) ?_
       generalize hW : World.setRow _ _ _ = W
       have HW : Hid (ByteRow.Has w.heap.size W (.slice (some ⟨w.heap.size, 0, none⟩) 32 32) P ∧ Below w.heap.size w W) := HP.out W hW
       clear hW)
    | (refine ByteRow.to_string _ rfl 60 9 5 _ rfl P rfl HW.out.1 hp0 underB under5 under9 ?_))
  have h1 := h.below HW.out.2
  have hB1 := Nat.le_trans hB HW.out.2.size
  refine (wbytes_any B v l ⟨P.toArray⟩ _ h1 hl2 hB1).mono ?_
  rintro e w2 ⟨rfl, h2, k2⟩
  go_wp2
  go_end0
  exact ⟨rfl, h2, (HW.out.2.mono hB).trans k2⟩
set_option maxHeartbeats 400000 in
theorem wbool_any (B : Nat) (v : Value) (l : List UInt8) (x : Bool) (w : World) (h : WAt 64 B v l w) (hl : v = .pointer none ∨ l.length + 1 ≤ 140737488355328) (hB : B ≤ w.heap.size) :
    Calls Tryd.prog 33 #[v, .bool x] w fun e w' => e = .returned (.tuple #[]) ∧ WAt 64 B v (l ++ [if x then 121 else 110]) w' ∧ Below B w w' := by
  cases x
  · go_enter Tryd.func33, Tryd.ntmps33
    go_wp2_with (go_at_call 57; refine (wbytes_any B v l ⟨#[110]⟩ _ h hl hB).mono ?_; rintro e w1 ⟨rfl, h1, k1⟩)
    go_end0
    exact ⟨rfl, by assumption, by assumption⟩
  · go_enter Tryd.func33, Tryd.ntmps33
    go_wp2_with (go_at_call 57; refine (wbytes_any B v l ⟨#[121]⟩ _ h hl hB).mono ?_; rintro e w1 ⟨rfl, h1, k1⟩)
    go_end0
    exact ⟨rfl, by assumption, by assumption⟩
end Go.Proofs.YtdcgemaaohldmaaDoor
