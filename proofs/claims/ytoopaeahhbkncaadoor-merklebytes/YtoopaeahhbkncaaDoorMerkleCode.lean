/- Contracts: manifests told as bytes, and read, the program's. -/
import Derived.Test.YtoopaeahhbkncaaDoorMerkleIn
namespace Go.Mk
open Go.RowKit Go.Wire
/-- A writer v with l, and a block g of one's own ahead of it. -/
structure Wk (T B : Nat) (v : Value) (l : List UInt8) (w : World) (g : Nat) (cs : Array Value) (S : TypeId) (W : World) : Prop where
  hw : WAt T B v l W
  box : W.heap[g]? = some (.cells cs S (0, 0))
  below : Below w.heap.size w W
  hB : B ≤ W.heap.size
  hg : g < B
  h0 : w.heap.size ≤ B
theorem Wk.step {T B : Nat} {v : Value} {l l' : List UInt8} {w : World} {g : Nat} {cs : Array Value} {S : TypeId} {W W' : World} (i : Wk T B v l w g cs S W) (h : WAt T B v l' W') (k : Below B W W') : Wk T B v l' w g cs S W' :=
  ⟨h, (k.block g i.hg).trans i.box, i.below.trans (k.mono i.h0), Nat.le_trans i.hB k.size, i.hg, i.h0⟩
/-- While a manifest is read: the reader in block b, what is answered in block g, the manifest in block h. -/
structure DkSt (T S b g h : Nat) (zs : Array Value) (w0 : World) (q : St) (cs : Array Value) (w : World) : Prop where
  rd : Rd T b q w
  z : w.heap[g]? = some (.cells zs S (0, 0))
  o : w.heap[h]? = some (.cells cs S (0, 0))
  below : Below w0.heap.size w0 w
  hg : w0.heap.size = g
  hb : g < b
  hh : b < h
theorem DkSt.read {T S b g h : Nat} {zs cs : Array Value} {w0 w w' : World} {q q' : St} (i : DkSt T S b g h zs w0 q cs w) (r : Rd T b q' w') (k : Kept b w w') : DkSt T S b g h zs w0 q' cs w' := by
  have := i.hb
  have := i.hg
  have := i.hh
  exact ⟨r, (k.other g (by omega) (row_lt i.z)).trans i.z, (k.other h (by omega) (row_lt i.o)).trans i.o, i.below.trans (k.below.mono (by omega)), i.hg, i.hb, i.hh⟩
theorem DkSt.step {T S b g h : Nat} {zs cs : Array Value} {w0 w w' : World} {q : St} (i : DkSt T S b g h zs w0 q cs w) (k : Below w.heap.size w w') : DkSt T S b g h zs w0 q cs w' :=
  ⟨i.rd.of_heap (k.block _ i.rd.lt), kept_block i.z k, kept_block i.o k, i.below.trans (k.mono i.below.size), i.hg, i.hb, i.hh⟩
theorem DkSt.set {T S b g h : Nat} {zs cs : Array Value} {w0 w : World} {q : St} (i : DkSt T S b g h zs w0 q cs w) (j : Nat) (v : Value) (cs' : Array Value) (e : (w.setCell ⟨h, j, none⟩ v).heap[h]? = some (.cells cs' S (0, 0))) : DkSt T S b g h zs w0 q cs' (w.setCell ⟨h, j, none⟩ v) := by
  have := i.hb
  have := i.hg
  have := i.hh
  exact ⟨i.rd.of_heap (Below.heap_setCell _ ⟨h, j, none⟩ v b (by show b ≠ h; omega)), (Below.heap_setCell _ ⟨h, j, none⟩ v g (by show g ≠ h; omega)).trans i.z, e, i.below.setCell (p := ⟨h, j, none⟩) (by show w0.heap.size ≤ h; omega) v, i.hg, i.hb, i.hh⟩
theorem DkSt.start {T S : Nat} {zs : Array Value} {r : St} {w w1 w2 : World} (k1 : Below (w.alloc (.cells zs S)).heap.size (w.alloc (.cells zs S)) w1) (k2 : Kept (w.heap.size + 1) w1 w2) (h2 : Rd T (w.heap.size + 1) r w2) (cs : Array Value) :
    DkSt T S (w.heap.size + 1) w.heap.size w2.heap.size zs w r cs (w2.alloc (.cells cs S)) := by
  have hz : w1.heap[w.heap.size]? = some (.cells zs S (0, 0)) := kept_block (heap_alloc_new _ _) k1
  have hz2 := (k2.other w.heap.size (by omega) (row_lt hz)).trans hz
  have b1 : Below w.heap.size w w1 := ((Below.refl _ w).alloc (Nat.le_refl _) _).trans (k1.mono (by simp))
  have b2 : Below w.heap.size w w2 := b1.trans (k2.below.mono (by omega))
  exact ⟨h2.of_heap (heap_alloc_old w2 _ h2.lt), kept_alloc hz2 _, heap_alloc_new _ _, b2.alloc b2.size _, rfl, by omega, h2.lt⟩
end Go.Mk
namespace Go.Proofs.YtoopaeahhbkncaaDoor
open Go.RowKit Go.Shelf Go.Wire Go.Mk Go.Chunk
attribute [local go_sem] Oper.semAt_some
set_option maxRecDepth 100000 in
set_option maxHeartbeats 1000000 in
theorem encode9_ok (size : Int) (xs : List ByteArray) (v : Value) (w : World) (hr : StrRow.Reads w v xs) (hc : chk size xs = 0) :
    Calls Tryd.prog 20 #[.agg #[.int .i64 size, v]] w fun e w' => e = .returned (.tuple #[.string ⟨(manBytes size.toNat xs).toArray⟩, .int .i64 0]) ∧ Below w.heap.size w w' := by
  obtain ⟨a, c, rfl⟩ := hr.form
  obtain ⟨⟨z1, z2, z3, z4⟩, h32⟩ := chk_zero hc
  have HC := hide (fun (w' : World) (h : Below w.heap.size w w') => check_any size xs (.slice a xs.length c) w' (hr.below h (Nat.le_refl _)))
  rw [hc] at HC
  obtain ⟨n, rfl⟩ : ∃ n : Nat, size = n := ⟨size.toNat, by omega⟩
  have hM : manBytes (n : Int).toNat xs = [] ++ num 8 n ++ num 8 xs.length ++ (xs.map fun s => pad s.data.toList).flatten := by
    unfold manBytes
    rw [cat_pad xs h32, Int.toNat_natCast, List.nil_append]
  rw [hM]
  have HI := hide (Bx.new w #[.int .i64 n, .slice a xs.length c] 26)
  have HCo : Hid (∀ (B g : Nat) (k : Nat) (L : List UInt8) (cs : Array Value) (w1 : World), Wk 93 B (.pointer (some ⟨B, 0, none⟩)) L w g cs 26 w1 → L.length ≤ 100 → (k : Int) ≤ 8192 → Calls Tryd.prog 48 #[.pointer (some ⟨B, 0, none⟩), .int .i64 k] w1 fun e w' => e = .returned (.tuple #[]) ∧ Wk 93 B (.pointer (some ⟨B, 0, none⟩)) (L ++ num 8 k) w g cs 26 w') := fun B g k L cs w1 i hL hk =>
    (wcount_any B _ L k w1 i.hw (.inr (by omega)) i.hB (by omega)).mono fun e w' ⟨a, b, c⟩ => ⟨a, i.step (by rw [show (max (k : Int) 0).toNat = k by omega] at b; exact b) c⟩
  have HPH : Hid (∀ (B g : Nat) (L : List UInt8) (cs : Array Value) (w1 : World), Wk 93 B (.pointer (some ⟨B, 0, none⟩)) L w g cs 26 w1 → L.length ≤ 100 → Calls Tryd.prog 49 #[.pointer (some ⟨B, 0, none⟩), .slice a xs.length c] w1 fun e w' => e = .returned (.tuple #[]) ∧ Wk 93 B (.pointer (some ⟨B, 0, none⟩)) (L ++ (xs.map fun s => pad s.data.toList).flatten) w g cs 26 w') := fun B g L cs w1 i hL =>
    (putHashes_any B _ (.slice a xs.length c) L xs w1 i.hw (.inr (by omega)) i.hB (by omega) (fun w' k => hr.below (i.below.trans (k.mono i.h0)) (Nat.le_refl _))).mono fun e w' ⟨a, b, d⟩ => ⟨a, i.step b d⟩
  have HAll : Hid (∀ (B g : Nat) (L : List UInt8) (cs : Array Value) (w1 : World), Wk 93 B (.pointer (some ⟨B, 0, none⟩)) L w g cs 26 w1 → Calls Tryd.prog 32 #[.pointer (some ⟨B, 0, none⟩)] w1 fun e w' => e = .returned (.string ⟨L.toArray⟩) ∧ Below w.heap.size w w') := fun B g L cs w1 i => by
    rcases i.hw with h | ⟨b, h, hr⟩
    · cases h
    · obtain rfl : B = b := by simpa using h
      exact (wall_any B B L w1 i.hB hr).mono fun e w' ⟨a, _, k⟩ => ⟨a, i.below.trans (k.mono i.h0)⟩
  have hn1 : (n : Int) ≤ 8192 := by omega
  have hn2 : (xs.length : Int) ≤ 8192 := by omega
  clear hr hc hM h32 z1 z2 z3 z4
  generalize (xs.map fun s => pad s.data.toList).flatten = FL at *
  go_enter Tryd.func20, Tryd.ntmps20
  go_wp2_with (first
    | (refine wpList_load_row rfl 26 _ rfl _ rfl _ _ _ _ HI.out.row Tryd.underlying26 rfl infoMan ?_)
    | (go_at_call 17; refine (HC.out _ HI.out.below).mono ?_; rintro e w1 ⟨rfl, k1⟩; replace HI := hide (HI.out.step k1); clear k1)
    | (go_at_call 30; refine (newWriter_any _).mono ?_; rintro e w2 ⟨rfl, h2, k2⟩
       have J := hide (show Wk 93 w1.heap.size (.pointer (some ⟨w1.heap.size, 0, none⟩)) [] w w.heap.size _ 26 w2 from ⟨.inr ⟨_, rfl, h2⟩, (HI.out.step k2).row, (HI.out.step k2).below, k2.size, row_lt HI.out.row, HI.out.below.size⟩)
       clear h2 k2
       obtain ⟨c0, c1⟩ : w2.cell? ⟨w.heap.size, 0, none⟩ = some (.int .i64 n) ∧ w2.cell? ⟨w.heap.size, 1, none⟩ = some (.slice a xs.length c) := ⟨(by rw [cell_of_row _ _ _ _ _ _ J.out.box]; rfl), (by rw [cell_of_row _ _ _ _ _ _ J.out.box]; rfl)⟩)
    | (go_at_call 48; refine (HCo.out _ _ _ _ _ _ J.out (by simp only [List.length_append, num_length, List.length_nil]; omega) (by omega)).mono ?_; rintro e w3 ⟨rfl, i⟩; replace J := hide i; clear i c0 c1
       obtain ⟨c0, c1⟩ : w3.cell? ⟨w.heap.size, 0, none⟩ = some (.int .i64 n) ∧ w3.cell? ⟨w.heap.size, 1, none⟩ = some (.slice a xs.length c) := ⟨(by rw [cell_of_row _ _ _ _ _ _ J.out.box]; rfl), (by rw [cell_of_row _ _ _ _ _ _ J.out.box]; rfl)⟩)
    | (go_at_call 49; refine (HPH.out _ _ _ _ _ J.out (by simp only [List.length_append, num_length, List.length_nil]; omega)).mono ?_; rintro e w5 ⟨rfl, i⟩; replace J := hide i; clear i c0 c1)
    | (go_at_call 32; refine (HAll.out _ _ _ _ _ J.out).mono ?_; rintro e w6 ⟨rfl, k6⟩; have HB := hide k6; clear k6))
  go_ret2
  exact ⟨rfl, HB.out⟩
set_option maxHeartbeats 1000000 in
theorem encode9_no (size : Int) (xs : List ByteArray) (v : Value) (w : World) (hr : StrRow.Reads w v xs) (hc : chk size xs ≠ 0) :
    Calls Tryd.prog 20 #[.agg #[.int .i64 size, v]] w fun e w' => e = .returned (.tuple #[.string ⟨#[]⟩, .int .i64 (chk size xs)]) ∧ Below w.heap.size w w' := by
  obtain ⟨a, c, rfl⟩ := hr.form
  have HC := hide (fun (w' : World) (h : Below w.heap.size w w') => check_any size xs (.slice a xs.length c) w' (hr.below h (Nat.le_refl _)))
  have h0 : (chk size xs == 0) = false := beq_eq_false_iff_ne.2 hc
  have HI := hide (Bx.new w #[.int .i64 size, .slice a xs.length c] 26)
  clear hr hc
  generalize chk size xs = K at *
  go_enter Tryd.func20, Tryd.ntmps20
  go_wp2_with (first
    | (refine wpList_load_row rfl 26 _ rfl _ rfl _ _ _ _ HI.out.row Tryd.underlying26 rfl infoMan ?_)
    | (go_at_call 17; refine (HC.out _ HI.out.below).mono ?_; rintro e w1 ⟨rfl, k1⟩; replace HI := hide (HI.out.step k1); clear k1))
  go_ret2
  exact ⟨rfl, HI.out.below⟩
theorem _root_.Go.Mk.d1_s (s : ByteArray) : (d1 s).1.s = s := St.count_s _ _
theorem _root_.Go.Mk.d2_s (s : ByteArray) : (d2 s).1.s = s := (St.count_s _ _).trans (d1_s s)
theorem _root_.Go.Mk.d3_s (s : ByteArray) : (d3 s).1.s = s := (St.hashes_s _ _).trans (d2_s s)
theorem _root_.Go.Mk.d1_le (s : ByteArray) : (d1 s).1.pos ≤ s.size := St.count_le ⟨s, 0, 0⟩ 8192 (Nat.zero_le _)
theorem _root_.Go.Mk.d3_le (s : ByteArray) : (d3 s).1.pos ≤ (d3 s).1.s.size := by
  have := St.hashes_le (d2 s).1 (d2_le s) (d2 s).2
  rw [d2_s] at this
  rw [d3_s]
  exact this
theorem _root_.Go.Mk.d2_most (s : ByteArray) : (d2 s).2 ≤ 256 := by
  unfold d2
  by_cases h : (256 : Int) < 0 ∨ (256 : Int) < ((d1 s).1.number 4).2
  · rw [St.count_no _ _ h]; exact Nat.zero_le _
  · rw [St.count_yes _ _ h]; omega
abbrev manZ : Array Value := #[.int .i64 0, .slice none 0 0]
set_option maxRecDepth 100000 in
set_option maxHeartbeats 2000000 in
theorem decode9_any (s : ByteArray) (w : World) (hs : s.size ≤ maxLen) :
    Calls Tryd.prog 22 #[.string s] w fun e w' => ∃ v m xs, e = .returned (.tuple #[.agg #[.int .i64 (if decE s = 0 then (d1 s).2 else 0 : Nat), v], .int .i64 (decE s)]) ∧ w'.ownsRow w.heap.size 9 1 v m (xs.map Value.string) ∧ xs = (if decE s = 0 then (d3 s).2 else []) ∧ Below w.heap.size w w' := by
  obtain ⟨B, hB⟩ : ∃ B, B = w.heap.size + 1 := ⟨_, rfl⟩
  have H1 : Hid (∀ w, Rd 85 B ⟨s, 0, 0⟩ w → Calls Tryd.prog 50 #[.pointer (some ⟨B, 0, none⟩), .int .i64 8192] w fun e w' => e = .returned (.int .i64 ((d1 s).2 : Nat)) ∧ Rd 85 B (d1 s).1 w' ∧ Kept B w w') := fun w h => count_any B ⟨s, 0, 0⟩ 8192 w h (Nat.zero_le _) hs (by decide)
  have H2 : Hid (∀ w, Rd 85 B (d1 s).1 w → Calls Tryd.prog 50 #[.pointer (some ⟨B, 0, none⟩), .int .i64 256] w fun e w' => e = .returned (.int .i64 ((d2 s).2 : Nat)) ∧ Rd 85 B (d2 s).1 w' ∧ Kept B w w') := fun w h => count_any B (d1 s).1 256 w h (by rw [d1_s]; exact d1_le s) (by rw [d1_s]; exact hs) (by decide)
  have hd2 := d2_most s
  have h3l : (d3 s).2.length = (d2 s).2 := St.hashes_length _ _
  have H3 : Hid (∀ w, Rd 85 B (d2 s).1 w → Calls Tryd.prog 51 #[.pointer (some ⟨B, 0, none⟩), .int .i64 ((d2 s).2 : Nat)] w fun e w' => ∃ v m ys, e = .returned v ∧ w'.ownsRow w.heap.size 9 1 v m ys ∧ ((d3 s).1.err = 0 → m = (d3 s).2.length ∧ ys = (d3 s).2.map Value.string) ∧ Rd 85 B (d3 s).1 w' ∧ Kept B w w') := fun w h =>
    (takeHashes_any B (d2 s).2 (d2 s).1 w h (d2_le s) (by rw [d2_s]; exact hs) (by omega)).mono fun e w' ⟨v, he, ho, hr, hk⟩ => ⟨v, _, _, he, ho, fun h0 => ⟨by rw [h3l]; exact if_pos h0, if_pos h0⟩, hr, hk⟩
  have HE : Hid (∀ w, Rd 85 B (d3 s).1 w → Calls Tryd.prog 52 #[.pointer (some ⟨B, 0, none⟩)] w fun e w' => e = .returned (.int .i64 (d3 s).1.fin.err) ∧ Rd 85 B (d3 s).1.fin w' ∧ Kept B w w') := fun w h => end_any B (d3 s).1 w h (d3_le s) (by rw [d3_s]; exact hs)
  have HC := hide (fun (v : Value) (xs : List ByteArray) (w' : World) (hr : StrRow.Reads w' v xs) => check_any ((d1 s).2 : Nat) xs v w' hr)
  subst hB
  clear hs hd2 h3l
  have hdA : (d3 s).1.fin.err ≠ 0 → decE s = (d3 s).1.fin.err := fun h => by unfold decE; rw [if_neg h]
  have hdC : (d3 s).1.fin.err = 0 → decE s = chk ((d1 s).2 : Nat) (d3 s).2 ∧ (d3 s).1.err = 0 := fun h => ⟨by unfold decE; rw [if_pos h], (fin_zero h).1⟩
  replace HC := hide (fun v w' hr => HC.out v (d3 s).2 w' hr)
  generalize chk ((d1 s).2 : Nat) (d3 s).2 = K at *
  generalize decE s = DE at *
  generalize (d3 s).1.fin.err = F at *
  generalize (d3 s).1.fin = q4 at *
  generalize (d3 s).1 = q3 at *
  generalize (d3 s).2 = xs at *
  generalize (d2 s).1 = q2 at *
  generalize (d2 s).2 = A2 at *
  generalize (d1 s).1 = q1 at *
  generalize (d1 s).2 = A1 at *
  by_cases hf : F = 0
  · subst hf
    obtain ⟨rfl, hf0⟩ := hdC rfl
    clear hdA hdC
    by_cases hk : DE = 0
    · subst hk
      rw [if_pos rfl, if_pos rfl]
      go_enter Tryd.func22, Tryd.ntmps22
      go_wp2_with (first
        | (go_at_call 27; refine (newReader_any s _).mono ?_; rintro e w1 ⟨rfl, h1, k1⟩; replace h1 : Rd 85 (w.heap.size + 1) ⟨s, 0, 0⟩ w1 := (by simpa using h1))
        | (go_at_call_of 50 (Value.int IntKind.i64 8192); refine (H1.out _ h1).mono ?_; rintro e w2 ⟨rfl, h2, k2⟩
           have I := hide (DkSt.start k1 k2 h2 #[.int .i64 A1, .slice none 0 0]); clear k1 k2 h1 h2)
        | (go_at_call_of 50 (Value.int IntKind.i64 256); refine (H2.out _ I.out.rd).mono ?_; rintro e w3 ⟨rfl, h3, k3⟩; replace I := hide (I.out.read h3 k3); clear h3 k3)
        | (go_at_call 51; refine (H3.out _ I.out.rd).mono ?_; rintro e w4 ⟨v, m, ys, rfl, ho, hx, h4, k4⟩
           obtain ⟨va, vc, rfl⟩ := own_slice ho
           obtain ⟨e1, e2⟩ := hx hf0
           subst e1 e2
           have HO := hide (And.intro ho (row_lt I.out.o))
           replace I := hide (I.out.read h4 k4); clear h4 k4 ho hx
           have c0 : w4.cell? ⟨w2.heap.size, 0, none⟩ = some (.int .i64 A1) := (by rw [cell_of_row _ _ _ _ _ _ I.out.o]; rfl)
           have c1 : w4.cell? ⟨w2.heap.size, 1, none⟩ = some (.slice none 0 0) := (by rw [cell_of_row _ _ _ _ _ _ I.out.o]; rfl)
           have f1 : w4.frozen? ⟨w2.heap.size, 1, none⟩ = false := frozen_of_row _ _ _ _ _ I.out.o)
        | (go_at_call 52
           replace I := hide (I.out.set 1 (.slice va xs.length vc) #[.int .i64 A1, .slice va xs.length vc] (by rw [heap_setCell_same _ _ _ _ _ _ I.out.o]; rfl))
           clear c0 c1 f1
           refine (HE.out _ I.out.rd).mono ?_; rintro e w5 ⟨rfl, h5, k5⟩
           have HP := hide (own_kept (own_setCell (j := 1) (u := .slice va xs.length vc) HO.out.1 HO.out.2) k5 (Nat.lt_trans I.out.hh HO.out.2))
           replace I := hide (I.out.read h5 k5); clear h5 k5)
        | (refine wpList_load_row rfl 26 _ rfl _ rfl _ _ _ _ I.out.o Tryd.underlying26 rfl infoMan ?_)
        | (go_at_call 17; refine (HC.out _ _ (StrRow.Reads.of_own HP.out)).mono ?_; rintro e w6 ⟨rfl, k6⟩; replace HP := hide (own_below HP.out k6); replace I := hide (I.out.step k6); clear k6)
        | (refine wpList_store_row rfl 26 _ _ rfl _ _ rfl rfl 26 _ I.out.z infoMan rfl (by simp [Value.oneCell']) ?_))
      have hg := I.out.hg
      have ho := TwoRows.own_mono (own_setRow HP.out (show w.heap.size < w3.heap.size from Nat.lt_trans (Nat.lt_trans I.out.hb I.out.hh) HO.out.2) #[.int .i64 A1, .slice va xs.length vc]) (base' := w.heap.size) (Nat.le_of_lt (Nat.lt_trans (Nat.lt_trans I.out.hb I.out.hh) HO.out.2))
      exact bodyPost_ret (results_cell2_row Tryd.results22 _ _ _ _ _ (0, 0) _ rfl (setRow_heap _ _ _ _ _ _ I.out.z) Tryd.underlying26 rfl infoMan) rfl ⟨_, _, xs, rfl, ho, rfl, below_setRow I.out.below (Nat.le_refl _) _⟩
    · rw [if_neg hk, if_neg hk]
      have hk0 : (DE == 0) = false := beq_eq_false_iff_ne.2 hk
      clear hk
      go_enter Tryd.func22, Tryd.ntmps22
      go_wp2_with (first
        | (go_at_call 27; refine (newReader_any s _).mono ?_; rintro e w1 ⟨rfl, h1, k1⟩; replace h1 : Rd 85 (w.heap.size + 1) ⟨s, 0, 0⟩ w1 := (by simpa using h1))
        | (go_at_call_of 50 (Value.int IntKind.i64 8192); refine (H1.out _ h1).mono ?_; rintro e w2 ⟨rfl, h2, k2⟩
           have I := hide (DkSt.start k1 k2 h2 #[.int .i64 A1, .slice none 0 0]); clear k1 k2 h1 h2)
        | (go_at_call_of 50 (Value.int IntKind.i64 256); refine (H2.out _ I.out.rd).mono ?_; rintro e w3 ⟨rfl, h3, k3⟩; replace I := hide (I.out.read h3 k3); clear h3 k3)
        | (go_at_call 51; refine (H3.out _ I.out.rd).mono ?_; rintro e w4 ⟨v, m, ys, rfl, ho, hx, h4, k4⟩
           obtain ⟨va, vc, rfl⟩ := own_slice ho
           obtain ⟨e1, e2⟩ := hx hf0
           subst e1 e2
           have HO := hide (And.intro ho (row_lt I.out.o))
           replace I := hide (I.out.read h4 k4); clear h4 k4 ho hx
           have c0 : w4.cell? ⟨w2.heap.size, 0, none⟩ = some (.int .i64 A1) := (by rw [cell_of_row _ _ _ _ _ _ I.out.o]; rfl)
           have c1 : w4.cell? ⟨w2.heap.size, 1, none⟩ = some (.slice none 0 0) := (by rw [cell_of_row _ _ _ _ _ _ I.out.o]; rfl)
           have f1 : w4.frozen? ⟨w2.heap.size, 1, none⟩ = false := frozen_of_row _ _ _ _ _ I.out.o)
        | (go_at_call 52
           replace I := hide (I.out.set 1 (.slice va xs.length vc) #[.int .i64 A1, .slice va xs.length vc] (by rw [heap_setCell_same _ _ _ _ _ _ I.out.o]; rfl))
           clear c0 c1 f1
           refine (HE.out _ I.out.rd).mono ?_; rintro e w5 ⟨rfl, h5, k5⟩
           have HP := hide (own_kept (own_setCell (j := 1) (u := .slice va xs.length vc) HO.out.1 HO.out.2) k5 (Nat.lt_trans I.out.hh HO.out.2))
           replace I := hide (I.out.read h5 k5); clear h5 k5)
        | (refine wpList_load_row rfl 26 _ rfl _ rfl _ _ _ _ I.out.o Tryd.underlying26 rfl infoMan ?_)
        | (go_at_call 17; refine (HC.out _ _ (StrRow.Reads.of_own HP.out)).mono ?_; rintro e w6 ⟨rfl, k6⟩; replace HP := hide (own_below HP.out k6); replace I := hide (I.out.step k6); clear k6)
        | (refine wpList_store_row rfl 26 _ _ rfl _ _ rfl rfl 26 _ I.out.z infoMan rfl (by simp [Value.oneCell']) ?_))
      exact bodyPost_ret (results_cell2_row Tryd.results22 _ _ _ _ _ (0, 0) _ rfl (setRow_heap _ _ _ _ _ _ I.out.z) Tryd.underlying26 rfl infoMan) rfl ⟨_, 0, [], rfl, World.ownsRow_nil _ _ _ _, rfl, below_setRow I.out.below (Nat.le_refl _) _⟩
  · obtain rfl := hdA hf
    rw [if_neg hf, if_neg hf]
    have hk0 : (DE == 0) = false := beq_eq_false_iff_ne.2 hf
    clear hf hdA hdC
    go_enter Tryd.func22, Tryd.ntmps22
    go_wp2_with (first
      | (go_at_call 27; refine (newReader_any s _).mono ?_; rintro e w1 ⟨rfl, h1, k1⟩; replace h1 : Rd 85 (w.heap.size + 1) ⟨s, 0, 0⟩ w1 := (by simpa using h1))
      | (go_at_call_of 50 (Value.int IntKind.i64 8192); refine (H1.out _ h1).mono ?_; rintro e w2 ⟨rfl, h2, k2⟩
         have I := hide (DkSt.start k1 k2 h2 #[.int .i64 A1, .slice none 0 0]); clear k1 k2 h1 h2)
      | (go_at_call_of 50 (Value.int IntKind.i64 256); refine (H2.out _ I.out.rd).mono ?_; rintro e w3 ⟨rfl, h3, k3⟩; replace I := hide (I.out.read h3 k3); clear h3 k3)
      | (go_at_call 51; refine (H3.out _ I.out.rd).mono ?_; rintro e w4 ⟨v, m, ys, rfl, ho, hx, h4, k4⟩
         obtain ⟨va, vc, rfl⟩ := own_slice ho
         replace I := hide (I.out.read h4 k4); clear h4 k4 ho hx
         have c0 : w4.cell? ⟨w2.heap.size, 0, none⟩ = some (.int .i64 A1) := (by rw [cell_of_row _ _ _ _ _ _ I.out.o]; rfl)
         have c1 : w4.cell? ⟨w2.heap.size, 1, none⟩ = some (.slice none 0 0) := (by rw [cell_of_row _ _ _ _ _ _ I.out.o]; rfl)
         have f1 : w4.frozen? ⟨w2.heap.size, 1, none⟩ = false := frozen_of_row _ _ _ _ _ I.out.o)
      | (go_at_call 52
         replace I := hide (I.out.set 1 (.slice va m vc) #[.int .i64 A1, .slice va m vc] (by rw [heap_setCell_same _ _ _ _ _ _ I.out.o]; rfl))
         clear c0 c1 f1
         refine (HE.out _ I.out.rd).mono ?_; rintro e w5 ⟨rfl, h5, k5⟩; replace I := hide (I.out.read h5 k5); clear h5 k5)
      | (refine wpList_load_row rfl 26 _ rfl _ rfl _ _ _ _ I.out.o Tryd.underlying26 rfl infoMan ?_)
      | (refine wpList_store_row rfl 26 _ _ rfl _ _ rfl rfl 26 _ I.out.z infoMan rfl (by simp [Value.oneCell']) ?_))
    exact bodyPost_ret (results_cell2_row Tryd.results22 _ _ _ _ _ (0, 0) _ rfl (setRow_heap _ _ _ _ _ _ I.out.z) Tryd.underlying26 rfl infoMan) rfl ⟨_, 0, [], rfl, World.ownsRow_nil _ _ _ _, rfl, below_setRow I.out.below (Nat.le_refl _) _⟩
end Go.Proofs.YtoopaeahhbkncaaDoor
