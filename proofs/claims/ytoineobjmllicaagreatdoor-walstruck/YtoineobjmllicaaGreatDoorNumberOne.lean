/- Several texts in one: WireNumber. -/
import Derived.Test.YtoineobjmllicaaGreatDoorWirOne
import Derived.Test.YtoineobjmllicaaGreatDoorBytesOne
import Derived.Laws.MakeOwn
/- The contract of a number's digits. -/
namespace Go.ByteRow
open Go.RowKit Go.Sha
/-- A row of noughts that a call has made. -/
theorem Has.made {base : Nat} {w : World} (hb : base ≤ w.heap.size) (m : Nat) (e : TypeId) : Has base (w.alloc (.cells (madeCells #[Value.int .u8 0] m) e)) (.slice (some ⟨w.heap.size, 0, none⟩) m m) (List.replicate m 0) := by
  have hc : madeCells #[Value.int .u8 0] m = ((List.replicate m (0 : UInt8)).map byteV).toArray := by
    apply Array.ext_getElem?
    intro i
    by_cases h : i < m
    · simp [madeCells, byteV, h, Nat.mod_one]
    · simp [madeCells, h]
  rw [hc]
  have hh := heap_alloc_new w (.cells ((List.replicate m (0 : UInt8)).map byteV).toArray e (0, 0))
  refine .inr ⟨w.heap.size, m, by simp, hb, by simp, by simp, fun j c hj => ?_, fun j hj => ?_⟩
  · rw [cell_of_row _ _ _ _ _ _ hh, List.getElem?_toArray, List.getElem?_map, hj]; rfl
  · exact ⟨by rw [cell_of_row _ _ _ _ _ _ hh, List.getElem?_toArray, List.getElem?_map, List.getElem?_replicate, if_pos hj]; rfl, frozen_of_row _ _ _ _ _ hh⟩
theorem Has.set {base g n cap m : Nat} {w : World} {l : List UInt8} {d : UInt8} (h : Has base w (.slice (some ⟨g, 0, none⟩) n cap) l) (hm : m < l.length) : Has base (w.setCell ⟨g, m, none⟩ (.int .u8 d.toNat)) (.slice (some ⟨g, 0, none⟩) n cap) (l.set m d) := by
  rcases h with ⟨h, _⟩ | ⟨g', cap', h1, h2, h3, h4, h5, h6⟩
  · cases h
  · simp only [Value.slice.injEq, Option.some.injEq, Addr.mk.injEq] at h1
    obtain ⟨⟨rfl, -, -⟩, hn, rfl⟩ := h1
    refine .inr ⟨g, cap, by simp [hn], h2, by simpa [World.setCell] using h3, by rw [List.length_set]; exact h4, fun j c hj => ?_, fun j hj => ?_⟩
    · by_cases e : j = m
      · subst e
        rw [List.getElem?_set_self hm] at hj
        cases hj
        obtain ⟨u, hu⟩ := Option.isSome_iff_exists.1 (h6 j (by omega)).1
        exact World.cell?_setCell_same w _ _ hu
      · rw [List.getElem?_set_ne (fun e2 => e e2.symm)] at hj
        rw [World.cell?_setCell_other w _ _ _ (by intro e2; simp only [Addr.mk.injEq, true_and, and_true] at e2; exact e e2.symm)]
        exact h5 j c hj
    · refine ⟨?_, by rw [World.frozen?_setCell]; exact (h6 j hj).2⟩
      obtain ⟨u, hu⟩ := Option.isSome_iff_exists.1 (h6 j hj).1
      obtain ⟨u', hu'⟩ := cell?_setCell_some (p := ⟨g, m, none⟩) (x := .int .u8 d.toNat) hu
      rw [hu']; rfl
theorem Has.cell {base g n cap m : Nat} {w : World} {l : List UInt8} {d : UInt8} (h : Has base w (.slice (some ⟨g, 0, none⟩) n cap) l) (hm : l[m]? = some d) : w.cell? ⟨g, m, none⟩ = some (.int .u8 d.toNat) ∧ w.frozen? ⟨g, m, none⟩ = false ∧ base ≤ g := by
  have hl := (List.getElem?_eq_some_iff.1 hm).1
  rcases h with ⟨h, _⟩ | ⟨g', cap', h1, h2, h3, h4, h5, h6⟩
  · cases h
  · simp only [Value.slice.injEq, Option.some.injEq, Addr.mk.injEq] at h1
    obtain ⟨⟨rfl, -, -⟩, hn, rfl⟩ := h1
    exact ⟨h5 m d hm, (h6 m (by omega)).2, h2⟩
end Go.ByteRow
namespace Go.Wire
theorem digits_at (d : Nat) (h : d < 16) : (⟨#[48, 49, 50, 51, 52, 53, 54, 55, 56, 57, 97, 98, 99, 100, 101, 102]⟩ : ByteArray)[d]'h = hexd d := by
  have key : ∀ d, (h : d < 16) → (⟨#[48, 49, 50, 51, 52, 53, 54, 55, 56, 57, 97, 98, 99, 100, 101, 102]⟩ : ByteArray)[d]'h = hexd d := by decide
  exact key d h
theorem num_round {m n i N : Nat} {l : List UInt8} (hil : i < l.length) (hp : num (i + 1) N ++ l.drop (i + 1) = num m n) : num i (N / 16) ++ (l.set i (hexd (N % 16))).drop i = num m n := by
  have h1 : (l.set i (hexd (N % 16))).drop i = hexd (N % 16) :: l.drop (i + 1) := by
    rw [List.drop_eq_getElem_cons (by rw [List.length_set]; exact hil), List.getElem_set_self, List.drop_set_of_lt (Nat.lt_succ_self i)]
  rw [h1, ← hp, num, List.append_assoc]
  rfl
end Go.Wire
namespace Go.Proofs.YtoineobjmllicaaGreatDoor
open Go.RowKit Go.Wire
theorem info5 : (Tryz.prog.info? 5).map (fun i => (i.zero, i.size, i.bytes)) = some (some (.int .u8 0), 1, 1) := by kernel_rfl
theorem underB : Tryz.prog.underlying 100 = some (.slice 5) := by kernel_rfl
theorem under5 : Tryz.prog.underlying 5 = some (.int .u8) := by kernel_rfl
theorem under9 : Tryz.prog.underlying 9 = some .string := by kernel_rfl
theorem make_bytes (m : Nat) (L : Int) (hL : L = m) (hm : m ≤ 1000) (w : World) :
    (Instr.makeSlice 100 (.int .i64 L) (.int .i64 L)).run Tryz.prog w = .ok (.slice (some ⟨w.heap.size, 0, none⟩) m m) (w.alloc (.cells (madeCells #[Value.int .u8 0] m) 5)) := by
  obtain ⟨i0, hi, hz0, hz1, hz2⟩ := info_parts info5
  subst hL
  have := run_make (P := Tryz.prog) w 100 5 i0 (.int .u8 0) underB hi hz0 .i64 .i64 m m (by omega) (by omega) (by rw [hz2]; omega) (by omega)
  rw [hz1, Int.toNat_natCast, Nat.mul_one] at this
  exact this
set_option maxHeartbeats 1000000 in
theorem number_mid (n k : Nat) (w : World) (hn : n < 18446744073709551616) (hk : k ≤ 8) :
    Calls Tryz.prog 72 #[.int .u64 n, .int .i64 k] w fun e w' => e = .returned (.string (numB (2 * k) n)) ∧ Below w.heap.size w w' := by
  have hmk := make_bytes (2 * k) (2 * (k : Int)) (by omega) (by omega) w
  have hk8 : (k : Int) ≤ 8 := by omega
  go_enter Tryz.func72, Tryz.ntmps72
  go_wp2_with fail
  have H0 := ByteRow.Has.made (Nat.le_refl w.heap.size) (2 * k) 5
  have HB := (Below.refl w.heap.size w).alloc (Nat.le_refl _) (.cells (madeCells #[Value.int .u8 0] (2 * k)) 5)
  clear hmk
  generalize hgg : w.heap.size = g at H0 HB
  generalize w.alloc (.cells (madeCells #[Value.int .u8 0] (2 * k)) 5) = W at H0 HB
  go_loopw [0, 6] (fun nv iv wr => ∃ (j N : Nat) (l : List UInt8), j ≤ (2 * k) ∧ N < 18446744073709551616 ∧ iv = .int .i64 ((j : Int) - 1) ∧ nv = .int .u64 N ∧ Hid (num j N ++ l.drop j = num (2 * k) n) ∧ Hid (l.length = (2 * k) ∧ ByteRow.Has g wr (.slice (some ⟨g, 0, none⟩) (2 * k) (2 * k)) l ∧ Below g w wr)) (fun _ i _ => (intOf i + 1).toNat)
  case atStart => exact ⟨(2 * k), n, _, Nat.le_refl _, hn, by go_num, rfl, (by simp : num (2 * k) n ++ (List.replicate (2 * k) (0 : UInt8)).drop (2 * k) = num (2 * k) n), List.length_replicate, H0, HB⟩
  case round =>
    clear H0 HB
    obtain ⟨j, N, l, hj, hN, rfl, rfl, hp, HH⟩ := hrel
    by_cases hlt : 0 < j
    · obtain ⟨i, rfl⟩ : ∃ i, j = i + 1 := ⟨j - 1, by omega⟩
      have e1 : ((i + 1 : Nat) : Int) - 1 = (i : Int) := by omega
      rw [e1]
      have hil : i < l.length := by rw [HH.out.1]; omega
      obtain ⟨d, hd⟩ : ∃ d, l[i]? = some d := ⟨l[i], List.getElem?_eq_getElem hil⟩
      obtain ⟨hc1, hc2, _⟩ := HH.out.2.1.cell hd
      clear hd
      go_wp2_with fail
      rw [digits_at (N % 16) (Nat.mod_lt _ (by decide))]
      refine ⟨⟨i, N / 16, l.set i (hexd (N % 16)), by omega, by omega, rfl, by go_num, num_round hil hp.out, by rw [List.length_set]; exact HH.out.1, HH.out.2.1.set hil, HH.out.2.2.setCell (p := ⟨g, i, none⟩) (Nat.le_refl _) _⟩, by simp [intOf]⟩
    · have hj0 : j = 0 := by omega
      subst hj0
      have hl : l = num (2 * k) n := hp.out
      subst hl
      rcases Nat.eq_zero_or_pos k with rfl | hk0
      · have hcv : (convert 100 9 (.slice (some ⟨g, 0, none⟩) 0 0)).run Tryz.prog wr = .ok (.string ⟨#[]⟩) wr := run_convert_bytes_back wr _ _ 5 ⟨g, 0, none⟩ 0 [] underB under5 under9 (fun j hj => by cases hj)
        go_wp2_with fail
        go_ret
        rw [hgg]
        exact ⟨rfl, HH.out.2.2⟩
      · have HL : Hid (num (2 * k) n ≠ []) := by
          have := num_length (2 * k) n
          intro x; rw [x] at this; simp at this; omega
        have HF : Hid (ByteRow.Has g wr (.slice (some ⟨g, 0, none⟩) (2 * k) (2 * k)) (num (2 * k) n)) := HH.out.2.1
        go_wp2_with (refine ByteRow.to_string _ rfl 100 9 5 _ rfl (num (2 * k) n) rfl HF.out HL.out underB under5 under9 ?_)
        go_ret
        rw [hgg]
        exact ⟨rfl, HH.out.2.2⟩
set_option maxHeartbeats 1000000 in
theorem number_big (n : Nat) (b : Int) (w : World) (hn : n < 18446744073709551616) (hb : 8 < b) :
    Calls Tryz.prog 72 #[.int .u64 n, .int .i64 b] w fun e w' => e = .returned (.string (numB 16 n)) ∧ Below w.heap.size w w' := by
  have hmk := make_bytes 16 16 (by omega) (by omega) w
  have hb0 : 0 ≤ b := by omega
  go_enter Tryz.func72, Tryz.ntmps72
  go_wp2_with fail
  have H0 := ByteRow.Has.made (Nat.le_refl w.heap.size) 16 5
  have HB := (Below.refl w.heap.size w).alloc (Nat.le_refl _) (.cells (madeCells #[Value.int .u8 0] 16) 5)
  clear hmk
  generalize hgg : w.heap.size = g at H0 HB
  generalize w.alloc (.cells (madeCells #[Value.int .u8 0] 16) 5) = W at H0 HB
  go_loopw [0, 6] (fun nv iv wr => ∃ (j N : Nat) (l : List UInt8), j ≤ 16 ∧ N < 18446744073709551616 ∧ iv = .int .i64 ((j : Int) - 1) ∧ nv = .int .u64 N ∧ Hid (num j N ++ l.drop j = num 16 n) ∧ Hid (l.length = 16 ∧ ByteRow.Has g wr (.slice (some ⟨g, 0, none⟩) 16 16) l ∧ Below g w wr)) (fun _ i _ => (intOf i + 1).toNat)
  case atStart => exact ⟨16, n, _, Nat.le_refl _, hn, by go_num, rfl, (by simp : num 16 n ++ (List.replicate 16 (0 : UInt8)).drop 16 = num 16 n), List.length_replicate, H0, HB⟩
  case round =>
    clear H0 HB
    obtain ⟨j, N, l, hj, hN, rfl, rfl, hp, HH⟩ := hrel
    by_cases hlt : 0 < j
    · obtain ⟨i, rfl⟩ : ∃ i, j = i + 1 := ⟨j - 1, by omega⟩
      have e1 : ((i + 1 : Nat) : Int) - 1 = (i : Int) := by omega
      rw [e1]
      have hil : i < l.length := by rw [HH.out.1]; omega
      obtain ⟨d, hd⟩ : ∃ d, l[i]? = some d := ⟨l[i], List.getElem?_eq_getElem hil⟩
      obtain ⟨hc1, hc2, _⟩ := HH.out.2.1.cell hd
      clear hd
      go_wp2_with fail
      rw [digits_at (N % 16) (Nat.mod_lt _ (by decide))]
      refine ⟨⟨i, N / 16, l.set i (hexd (N % 16)), by omega, by omega, rfl, by go_num, num_round hil hp.out, by rw [List.length_set]; exact HH.out.1, HH.out.2.1.set hil, HH.out.2.2.setCell (p := ⟨g, i, none⟩) (Nat.le_refl _) _⟩, by simp [intOf]⟩
    · have hj0 : j = 0 := by omega
      subst hj0
      have hl : l = num 16 n := hp.out
      subst hl
      have HL : Hid (num 16 n ≠ []) := by
        have := num_length 16 n
        intro x; rw [x] at this; simp at this
      have HF : Hid (ByteRow.Has g wr (.slice (some ⟨g, 0, none⟩) 16 16) (num 16 n)) := HH.out.2.1
      go_wp2_with (refine ByteRow.to_string _ rfl 100 9 5 _ rfl (num 16 n) rfl HF.out HL.out underB under5 under9 ?_)
      go_ret
      rw [hgg]
      exact ⟨rfl, HH.out.2.2⟩
set_option maxHeartbeats 1000000 in
theorem number_neg (n : Nat) (b : Int) (w : World) (hb : b < 0) :
    Calls Tryz.prog 72 #[.int .u64 n, .int .i64 b] w fun e w' => e = .returned (.string ⟨#[]⟩) ∧ Below w.heap.size w w' := by
  have hmk := make_bytes 0 0 (by omega) (by omega) w
  go_enter Tryz.func72, Tryz.ntmps72
  go_wp2_with fail
  have HB := (Below.refl w.heap.size w).alloc (Nat.le_refl _) (.cells (madeCells #[Value.int .u8 0] 0) 5)
  clear hmk
  have hcv : (convert 100 9 (.slice (some ⟨w.heap.size, 0, none⟩) 0 0)).run Tryz.prog (w.alloc (.cells (madeCells #[Value.int .u8 0] 0) 5)) = .ok (.string ⟨#[]⟩) (w.alloc (.cells (madeCells #[Value.int .u8 0] 0) 5)) := run_convert_bytes_back _ _ _ 5 ⟨w.heap.size, 0, none⟩ 0 [] underB under5 under9 (fun j hj => by cases hj)
  generalize hgg : w.heap.size = g at HB hcv
  generalize w.alloc (.cells (madeCells #[Value.int .u8 0] 0) 5) = W at HB hcv
  go_loop [6] (fun i => i = .int .i64 (-1)) (fun _ => 0)
  case atStart => rfl
  case round =>
    subst hrel
    go_wp2_with fail
    go_ret
    exact ⟨rfl, HB⟩
theorem number_any (n : Nat) (b : Int) (w : World) (hn : n < 18446744073709551616) :
    Calls Tryz.prog 72 #[.int .u64 n, .int .i64 b] w fun e w' => e = .returned (.string (numB (2 * (min (max b 0) 8).toNat) n)) ∧ Below w.heap.size w w' := by
  by_cases h0 : b < 0
  · rw [show (min (max b 0) 8).toNat = 0 by omega]
    exact number_neg n b w h0
  · by_cases h8 : 8 < b
    · rw [show (min (max b 0) 8).toNat = 8 by omega]
      exact number_big n b w hn h8
    · obtain ⟨k, rfl⟩ : ∃ k : Nat, b = k := ⟨b.toNat, by omega⟩
      rw [show (min (max (k : Int) 0) 8).toNat = k by omega]
      exact number_mid n k w hn (by omega)
end Go.Proofs.YtoineobjmllicaaGreatDoor
