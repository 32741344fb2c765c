/- The walk of DagMost. -/
import Derived.Test.YtkbboddibgfjbaaGreatDoorDagAwake
import Derived.Test.YtkbboddibgfjbaaGreatDoorDagMostMath
import Derived.Test.YtkbboddibgfjbaaGreatDoorTailTwo
import Derived.Lib.MinMax
namespace Go.Proofs.YtkbboddibgfjbaaGreatDoor
open Go.RowKit Go.Sort Go.Wire Go.Stamp Go.Opn Go.Nod Go.MapFun Go.Dag
attribute [local go_sem] Oper.semAt_some
theorem Bn.setC {w0 w : World} {g : Nat} {cs : Array Value} {S : TypeId} (i : Bn w0 g cs S w) (hg : w0.heap.size ≤ g) (j : Nat) (v : Value) (cs' : Array Value) (e : cs.setIfInBounds j v = cs') : Bn w0 g cs' S (w.setCell ⟨g, j, none⟩ v) :=
  ⟨by rw [heap_setCell_same _ _ _ _ _ _ i.row, e], i.below.setCell hg v⟩
theorem conv1 (i : Nat) (hi : i < 100) (w : World) : (convert 44 9 (.slice (some ⟨w.heap.size, 0, none⟩) 1 1)).run Tryz.prog (w.alloc (.cells #[.int .u8 (97 + (i : Int))] 5)) = .ok (.string ⟨#[UInt8.ofNat (97 + i)]⟩) (w.alloc (.cells #[.int .u8 (97 + (i : Int))] 5)) := by
  have h := run_convert_bytes_back (P := Tryz.prog) (w.alloc (.cells #[.int .u8 (97 + (i : Int))] 5)) 44 9 5 ⟨w.heap.size, 0, none⟩ 1 [UInt8.ofNat (97 + i)] Tryz.underlying44 (by kernel_rfl) Tryz.underlying9 (fun j hj => by
    have hj0 : j = 0 := by simpa using hj
    subst hj0
    rw [add_at, cell_of_row _ _ _ _ _ _ (heap_alloc_new _ _)]
    simp
    omega)
  exact h
/-- A node of the law's in block g, its one parent in block pb. -/
structure Nw (w0 : World) (g pb : Nat) (a : Int) (p tg : ByteArray) (w : World) : Prop where
  row : w.heap[g]? = some (.cells ((mNd a p tg).cs (.slice (some ⟨pb, 0, none⟩) 1 1)) 51 (0, 0))
  pr : w.heap[pb]? = some (.cells #[.string p] 9 (0, 0))
  ne : pb ≠ g
  lo : w0.heap.size ≤ g
  below : Below w0.heap.size w0 w
theorem Nw.step {w0 w w' : World} {g pb : Nat} {a : Int} {p tg : ByteArray} (i : Nw w0 g pb a p tg w) (k : Below w.heap.size w w') : Nw w0 g pb a p tg w' :=
  ⟨kept_block i.row k, kept_block i.pr k, i.ne, i.lo, i.below.trans (k.mono i.below.size)⟩
theorem Nw.tag {w0 w : World} {g pb : Nat} {a : Int} {p tg : ByteArray} (i : Nw w0 g pb a p tg w) (t : ByteArray) : Nw w0 g pb a p t (w.setCell ⟨g, 11, none⟩ (.string t)) :=
  ⟨by rw [heap_setCell_same _ _ _ _ _ _ i.row]; rfl, (Below.heap_setCell w _ _ pb i.ne).trans i.pr, i.ne, i.lo, i.below.setCell i.lo _⟩
theorem Nw.reads {w0 w : World} {g pb : Nat} {a : Int} {p tg : ByteArray} (i : Nw w0 g pb a p tg w) : StrRow.Reads w (.slice (some ⟨pb, 0, none⟩) 1 1) (mNd a p tg).ps :=
  .inr ⟨pb, 0, 1, rfl, block_lt_of_cell (a := ⟨pb, 0, none⟩) (v := .string p) (by rw [cell_of_row _ _ _ _ _ _ i.pr]; rfl), Nat.le_refl _, fun j x hj => by
    match j, hj with
    | 0, hj => cases hj; rw [cell_of_row _ _ _ _ _ _ i.pr]; rfl⟩
theorem mNd_sig {a : Nat} (ha : a < 4) {p : ByteArray} (hp : p.size = 32) (tg : ByteArray) : (mNd a p tg).Sig := by
  have h := (mN_good ha hp).sig
  exact ⟨h.au, h.few, h.all, h.ok, h.good⟩
/-- The document's tag of such a node. -/
theorem mTag (a : Nat) (ha : a < 4) (p : ByteArray) (hp : p.size = 32) {w0 w : World} {g pb : Nat} (i : Nw w0 g pb a p ⟨#[]⟩ w) :
    Calls Tryz.prog 16 #[.string ⟨#[115, 101, 101, 100]⟩, .agg ((mNd a p ⟨#[]⟩).cs (.slice (some ⟨pb, 0, none⟩) 1 1))] w fun e w' => e = .returned (.string (mT a p)) ∧ Below w.heap.size w w' := by
  have h := rnodeTag_any seedB (mNd a p ⟨#[]⟩) _ w (by decide) i.reads (mNd_sig ha hp _)
  exact h
theorem mBody (a : Nat) (ha : a < 4) (p : ByteArray) (hp : p.size = 32) {w0 w : World} {g pb : Nat} {tg : ByteArray} (i : Nw w0 g pb a p tg w) :
    Calls Tryz.prog 17 #[.agg ((mNd a p tg).cs (.slice (some ⟨pb, 0, none⟩) 1 1))] w fun e w' => e = .returned (.string (mNd a p tg).bodyB) ∧ Below w.heap.size w w' :=
  rbody_any (mNd a p tg) _ w i.reads (mNd_sig ha hp _)
theorem mBytes (a : Nat) (ha : a < 4) (p : ByteArray) (hp : p.size = 32) : (mNd a p (mT a p)).bodyB ++ mT a p = (mN a p).bytesB ∧ (mNd a p (mT a p)).bodyB.size ≤ 1000 ∧ (mT a p).size = 32 := by
  refine ⟨bytesB_eq (mN a p), ?_, tagOf_size _ _⟩
  have := (mN_good ha hp).sig.length
  rw [size_list, Nd.bodyB_list]
  have e : (mNd a p (mT a p)).body = (mN a p).body := rfl
  rw [e]
  omega
theorem yes_any (b : Bool) (w : World) : Calls Tryz.prog 19 #[.bool b] w fun e w' => e = .returned (.int .i64 (if b then 1 else 0)) ∧ w' = w := by
  cases b
  · go_enter Tryz.func19, Tryz.ntmps19
    go_wp2
    go_ret
    exact ⟨rfl, rfl⟩
  · go_enter Tryz.func19, Tryz.ntmps19
    go_wp2
    go_ret
    exact ⟨rfl, rfl⟩
set_option maxRecDepth 100000 in
set_option maxHeartbeats 8000000 in
theorem dagMost_any (n other : Int) (w : World) (hst : Steps w) (het : Ety w) :
    Calls Tryz.prog 4 #[.int .i64 n, .int .i64 other] w fun e w' => e = .returned (.bool true) ∧ Below w.heap.size w w' := by
  have HX := hide (And.intro hst het)
  have HRg : Hid (∀ w', Below w.heap.size w w' → Calls Tryz.prog 9 #[.string ⟨#[115, 101, 101, 100]⟩, .int .i64 4] w' fun e w2 => ∃ v, e = .returned v ∧ Mac.RingAt w2 v (Mac.keysOf seedB 4) ∧ Below w'.heap.size w' w2) := fun w' k => ring11_any seedB 4 w' (by decide) (by decide) (hst.below k hst.pos)
  have HAw := hide (fun w' (k : Below w.heap.size w w') => awake12_any w' (hst.below k hst.pos) (het.below k het.pos))
  have hks : ∀ k ∈ Mac.keysOf seedB 4, k.size ≤ 1000000 := fun k hk => by
    obtain ⟨i, _, rfl⟩ := List.mem_map.1 hk
    rw [Mac.keyOf_size]
    decide
  clear hst het
  obtain ⟨K, hK, hK1⟩ := Wire.and_small n 15 (by decide)
  obtain ⟨O, hO, hO1⟩ := Wire.and_small other 3 (by decide)
  have hK1' : bits .and .i64 n 15 = (K : Int) := hK1
  have hO1' : bits .and .i64 other 3 = (O : Int) := hO1
  clear hK1 hO1
  go_enter Tryz.func4, Tryz.ntmps4
  go_wp2_with (first
    | (go_at_call 9; refine (HRg.out _ (Below.refl _ _)).mono ?_; rintro e w2 ⟨rv, rfl, ⟨rb, sv, rfl, hrc, hrr⟩, k2⟩; have H2 := hide k2; clear k2)
    | (go_at_call 8; refine (newDag_any rb sv (Mac.keysOf seedB 4) w2 hrc hrr).mono ?_; rintro e w3 ⟨F, sl, rfl, hD, k3⟩; have H3 := hide (And.intro hD (H2.out.trans (k3.mono H2.out.size))); clear hD k3 hrc hrr)
    | (go_at_call 10; refine (HAw.out _ H3.out.2).mono ?_; rintro e w4 ⟨rfl, k4⟩; have H4 := hide (And.intro (H3.out.1.below k4) (H3.out.2.trans (k4.mono H3.out.2.size))); clear k4))
  have hb2 : w.heap.size ≤ w2.heap.size := H2.out.size
  have hgb : 0 < w2.heap.size := Nat.lt_of_lt_of_le HX.out.2.pos hb2
  clear H3 H2 HRg HAw
  go_loopw [8] (fun vi wr => ∃ i : Nat, i ≤ K ∧ vi = .int .i64 i ∧ Hid (∃ F2 sl2, F2.b = F.b ∧ DagAt Tryz.prog 75 w2.heap.size F2 (Mac.keysOf seedB 4) sl2 ⟨[], wts (min i 8)⟩ wr ∧ Below w.heap.size w wr)) (fun vi _ => 100 - (intOf vi).toNat)
  case atStart => exact ⟨0, Nat.zero_le _, rfl, F, sl, rfl, H4.out.1, H4.out.2⟩
  case round =>
    obtain ⟨i, hi, rfl, F2, sl2, hb, hD, kw⟩ := hrel
    have I := hide (And.intro hb (And.intro hD kw))
    clear hb hD kw H4
    by_cases hlt : i < K
    · have hlt' : (i : Int) < K := by omega
      have hw8 : IntKind.u8.wrap (97 + (i : Int)) = 97 + i := by simp [IntKind.wrap, IntKind.bits, IntKind.signed]; omega
      have hwi : IntKind.i64.wrap (97 + (i : Int)) = 97 + i := Sha.wrap_i64 _ (by omega) (by omega)
      have hcv := conv1 i (by omega) wr
      obtain ⟨PB, hPB⟩ : ∃ PB : ByteArray, PB = ⟨#[UInt8.ofNat (97 + i)]⟩ := ⟨_, rfl⟩
      rw [← hPB] at hcv
      have hPs : PB.size = 1 := by rw [hPB]; rfl
      have HPB := hide hPB
      clear hPB
      go_upto_region 10 with fail
      have N0 : Hid (Nw wr (wr.heap.size + 1 + 1) (wr.heap.size + 1) ((1 : Nat) : Int) (mP i) ⟨#[]⟩ (((wr.alloc (.cells #[.int .u8 (97 + (i : Int))] 5)).alloc (.cells #[.string (⟨#[49, 50, 51, 52, 53, 54, 55, 56, 57, 48, 49, 50, 51, 52, 53, 54, 55, 56, 57, 48, 49, 50, 51, 52, 53, 54, 55, 56, 57, 48, 49]⟩ ++ PB)] 9)).alloc (.cells #[.int .i64 1, .slice (some ⟨wr.heap.size + 1, 0, none⟩) 1 1, .int .i64 3, .int .u64 5, .int .i64 1, .int .u64 20, .int .u64 0, .string ⟨#[]⟩, .bool false, .string ⟨#[]⟩, .int .i64 0, .string ⟨#[]⟩] 51))) := by
        have hr := heap_alloc_new ((wr.alloc (.cells #[.int .u8 (97 + (i : Int))] 5)).alloc (.cells #[.string (⟨#[49, 50, 51, 52, 53, 54, 55, 56, 57, 48, 49, 50, 51, 52, 53, 54, 55, 56, 57, 48, 49, 50, 51, 52, 53, 54, 55, 56, 57, 48, 49]⟩ ++ PB)] 9)) (.cells #[.int .i64 1, .slice (some ⟨wr.heap.size + 1, 0, none⟩) 1 1, .int .i64 3, .int .u64 5, .int .i64 1, .int .u64 20, .int .u64 0, .string ⟨#[]⟩, .bool false, .string ⟨#[]⟩, .int .i64 0, .string ⟨#[]⟩] 51)
        have hp := heap_alloc2_old (wr.alloc (.cells #[.int .u8 (97 + (i : Int))] 5)) (.cells #[.string (⟨#[49, 50, 51, 52, 53, 54, 55, 56, 57, 48, 49, 50, 51, 52, 53, 54, 55, 56, 57, 48, 49, 50, 51, 52, 53, 54, 55, 56, 57, 48, 49]⟩ ++ PB)] 9) (.cells #[.int .i64 1, .slice (some ⟨wr.heap.size + 1, 0, none⟩) 1 1, .int .i64 3, .int .u64 5, .int .i64 1, .int .u64 20, .int .u64 0, .string ⟨#[]⟩, .bool false, .string ⟨#[]⟩, .int .i64 0, .string ⟨#[]⟩] 51)
        have e1 : (wr.alloc (.cells #[.int .u8 (97 + (i : Int))] 5)).heap.size = wr.heap.size + 1 := by simp
        have e2 : ((wr.alloc (.cells #[.int .u8 (97 + (i : Int))] 5)).alloc (.cells #[.string (⟨#[49, 50, 51, 52, 53, 54, 55, 56, 57, 48, 49, 50, 51, 52, 53, 54, 55, 56, 57, 48, 49, 50, 51, 52, 53, 54, 55, 56, 57, 48, 49]⟩ ++ PB)] 9)).heap.size = wr.heap.size + 1 + 1 := by simp
        rw [e2] at hr
        rw [e1] at hp
        rw [HPB.out] at hr hp ⊢
        exact ⟨hr, hp, by omega, by omega, (((Below.refl _ wr).alloc (Nat.le_refl _) _).alloc (by simp) _).alloc (by simp; omega) _⟩
      generalize (((wr.alloc (.cells #[.int .u8 (97 + (i : Int))] 5)).alloc (.cells #[.string (⟨#[49, 50, 51, 52, 53, 54, 55, 56, 57, 48, 49, 50, 51, 52, 53, 54, 55, 56, 57, 48, 49, 50, 51, 52, 53, 54, 55, 56, 57, 48, 49]⟩ ++ PB)] 9)).alloc (.cells #[.int .i64 1, .slice (some ⟨wr.heap.size + 1, 0, none⟩) 1 1, .int .i64 3, .int .u64 5, .int .i64 1, .int .u64 20, .int .u64 0, .string ⟨#[]⟩, .bool false, .string ⟨#[]⟩, .int .i64 0, .string ⟨#[]⟩] 51)) = w5 at *
      have HTg := hide (mTag 1 (by decide) (mP i) (mP_size i) N0.out)
      have HBy := hide (mBytes 1 (by decide) (mP i) (mP_size i))
      have HBd := hide (fun w' (k : Nw wr (wr.heap.size + 1 + 1) (wr.heap.size + 1) ((1 : Nat) : Int) (mP i) (mT 1 (mP i)) w') => mBody 1 (by decide) (mP i) (mP_size i) k)
      have HAx := hide (add_x (i := i) (by omega))
      have hRw : Hid (∀ t, ((mNd ((1 : Nat) : Int) (mP i) t).cs (.slice (some ⟨wr.heap.size + 1, 0, none⟩) 1 1))[11]? = some (.string t)) := fun t => rfl
      generalize hT0 : mT 1 (mP i) = T0 at *
      clear hT0
      go_upto_region 11 with (first
        | (refine wpList_load_row rfl 51 _ rfl _ rfl _ _ _ _ N0.out.row Tryz.underlying51 rfl infoRN ?_)
        | (go_at_call 16; refine HTg.out.mono ?_; rintro e w7 ⟨rfl, k7⟩; have N7 := hide (N0.out.step k7); clear k7; have c11 := (cells12 N7.out.row).2.2.2.2.2.2.2.2.2.2.2; have f11 : w7.frozen? ⟨wr.heap.size + 1 + 1, 11, none⟩ = false := frozen_of_row _ _ _ _ _ N7.out.row))
      have N8 := hide (N7.out.tag T0)
      clear N7 N0 HTg c11 f11
      generalize w7.setCell ⟨wr.heap.size + 1 + 1, 11, none⟩ (.string T0) = w8 at *
      have r11 := cell_regrown (show w8.cell? ⟨wr.heap.size + 1 + 1, 11, none⟩ = some (.string T0) from (cells12 N8.out.row).2.2.2.2.2.2.2.2.2.2.2)
      have HB8 := hide (fun w' (k : Below w8.heap.size w8 w') => HBd.out w' (N8.out.step k))
      generalize hB0 : (mNd ((1 : Nat) : Int) (mP i) T0).bodyB = B0 at *
      clear hB0
      have hB0s : B0.size ≤ 1000 := HBy.out.2.1
      have hT0s : T0.size = 32 := HBy.out.2.2
      refine QuietCalls.tail2 6 1 (by kernel_rfl) (by kernel_rfl) ?_
      simp only [List.take_succ_cons, List.take_zero, List.drop_succ_cons, List.drop_zero]
      first | go_big_quiet_step (fail) | quiet_step (fail)
      refine QuietCalls.load rfl 51 _ rfl _ rfl _ _ _ _ N8.out.row Tryz.underlying51 rfl infoRN ?_; simp only [Act.put, List.setIfInBounds_toArray, List.set_cons_succ, List.set_cons_zero]
      refine QuietCalls.call1 rfl rfl Tryz.call17 (fun w' hb => HB8.out w' (by exact hb)) rfl ?_; simp only [Act.put, List.setIfInBounds_toArray, List.set_cons_succ, List.set_cons_zero]
      iterate 3 first | go_big_quiet_step (fail) | quiet_step (fail)
      refine wpQuiet_nil ?_
      intro w9 k9
      have N9 := hide (N8.out.step k9)
      clear k9 r11 HB8 HBd N8
      have B9 := hide (I.out.2.2.trans (N9.out.below.mono I.out.2.2.size))
      have HAd := hide (add12_any (B0 ++ T0) w9 (I.out.2.1.below N9.out.below) hks (by rw [ByteArray.size_append]; omega) (HX.out.1.below B9.out HX.out.1.pos) (HX.out.2.below B9.out HX.out.2.pos) hgb (by show ([] : Ns).length + (wts (min i 8)).length ≤ 90000; rw [wts_length]; simp; omega))
      rw [HBy.out.1, HAx.out, I.out.1] at HAd
      rw [← HBy.out.1] at HAd
      dsimp only at HAd
      obtain ⟨R, hR⟩ : ∃ R : Int, R = if i < 8 then 123 else 3 := ⟨_, rfl⟩
      rw [← hR] at HAd
      have HR := hide hR
      clear hR
      go_wp2_with (go_at_call 12; refine HAd.out.mono ?_; rintro e w10 ⟨v10, rfl, HQ⟩)
      simp only [QTail.Mid]
      iterate 4 first | go_big_quiet_step (fail) | quiet_step (fail)
      refine wpQuiet_nil ?_
      obtain ⟨F3, sl3, Q10⟩ := HQ.out
      have Q10 := hide Q10
      have k10 := Q10.out.tn.below (I.out.2.1.below N9.out.below).r.hasBase (I.out.2.1.below N9.out.below).r.size
      have B10 := hide (B9.out.trans (k10.mono hb2))
      have hbb : Hid (F3.b = F.b) := Q10.out.b.trans I.out.1
      clear HQ k10 HAd HAx HBy hRw hcv hw8 hwi
      have hwn : IntKind.i64.wrap ((i : Int) + 1) = i + 1 := Sha.wrap_i64 _ (by omega) (by omega)
      have hR2 : (i < 8 ∧ R = 123) ∨ (¬ i < 8 ∧ R = 3) := by
        rw [HR.out]
        by_cases h : i < 8
        · exact .inl ⟨h, if_pos h⟩
        · exact .inr ⟨h, if_neg h⟩
      rcases hR2 with ⟨h8, rfl⟩ | ⟨h8, rfl⟩
      · have h8' : (i : Int) < 8 := by omega
        go_wp2_with fail
        go_roundw
        case rel => exact ⟨i + 1, by omega, by go_num, F3, sl3, hbb.out, Q10.out.d, B10.out⟩
        case measure => simp [intOf]; omega
      · have h8' : ¬ (i : Int) < 8 := by omega
        have h8'' : (8 : Int) ≤ i := by omega
        go_wp2_with fail
        go_roundw
        case rel => exact ⟨i + 1, by omega, by go_num, F3, sl3, hbb.out, Q10.out.d, B10.out⟩
        case measure => simp [intOf]; omega
    · have hlt' : ¬ (i : Int) < K := by omega
      have hiK : i = K := by omega
      subst hiK
      clear hi hlt
      have hO4 : O < 4 := by omega
      go_upto_region 16 with fail
      have N0 : Hid (Nw wr (wr.heap.size + 1) wr.heap.size (O : Int) yP ⟨#[]⟩ ((wr.alloc (.cells #[.string ⟨#[120, 50, 51, 52, 53, 54, 55, 56, 57, 48, 49, 50, 51, 52, 53, 54, 55, 56, 57, 48, 49, 50, 51, 52, 53, 54, 55, 56, 57, 48, 49, 50]⟩] 9)).alloc (.cells #[.int .i64 (O : Int), .slice (some ⟨wr.heap.size, 0, none⟩) 1 1, .int .i64 3, .int .u64 5, .int .i64 (O : Int), .int .u64 20, .int .u64 0, .string ⟨#[]⟩, .bool false, .string ⟨#[]⟩, .int .i64 0, .string ⟨#[]⟩] 51))) := by
        have hr := heap_alloc_new (wr.alloc (.cells #[.string ⟨#[120, 50, 51, 52, 53, 54, 55, 56, 57, 48, 49, 50, 51, 52, 53, 54, 55, 56, 57, 48, 49, 50, 51, 52, 53, 54, 55, 56, 57, 48, 49, 50]⟩] 9)) (.cells #[.int .i64 (O : Int), .slice (some ⟨wr.heap.size, 0, none⟩) 1 1, .int .i64 3, .int .u64 5, .int .i64 (O : Int), .int .u64 20, .int .u64 0, .string ⟨#[]⟩, .bool false, .string ⟨#[]⟩, .int .i64 0, .string ⟨#[]⟩] 51)
        have hp := heap_alloc2_old wr (.cells #[.string ⟨#[120, 50, 51, 52, 53, 54, 55, 56, 57, 48, 49, 50, 51, 52, 53, 54, 55, 56, 57, 48, 49, 50, 51, 52, 53, 54, 55, 56, 57, 48, 49, 50]⟩] 9) (.cells #[.int .i64 (O : Int), .slice (some ⟨wr.heap.size, 0, none⟩) 1 1, .int .i64 3, .int .u64 5, .int .i64 (O : Int), .int .u64 20, .int .u64 0, .string ⟨#[]⟩, .bool false, .string ⟨#[]⟩, .int .i64 0, .string ⟨#[]⟩] 51)
        have e1 : (wr.alloc (.cells #[.string ⟨#[120, 50, 51, 52, 53, 54, 55, 56, 57, 48, 49, 50, 51, 52, 53, 54, 55, 56, 57, 48, 49, 50, 51, 52, 53, 54, 55, 56, 57, 48, 49, 50]⟩] 9)).heap.size = wr.heap.size + 1 := by simp
        rw [e1] at hr
        exact ⟨hr, hp, by omega, by omega, ((Below.refl _ wr).alloc (Nat.le_refl _) _).alloc (by simp) _⟩
      generalize ((wr.alloc (.cells #[.string ⟨#[120, 50, 51, 52, 53, 54, 55, 56, 57, 48, 49, 50, 51, 52, 53, 54, 55, 56, 57, 48, 49, 50, 51, 52, 53, 54, 55, 56, 57, 48, 49, 50]⟩] 9)).alloc (.cells #[.int .i64 (O : Int), .slice (some ⟨wr.heap.size, 0, none⟩) 1 1, .int .i64 3, .int .u64 5, .int .i64 (O : Int), .int .u64 20, .int .u64 0, .string ⟨#[]⟩, .bool false, .string ⟨#[]⟩, .int .i64 0, .string ⟨#[]⟩] 51)) = w5 at *
      have HTg := hide (mTag O hO4 yP rfl N0.out)
      have HBy := hide (mBytes O hO4 yP rfl)
      have HBd := hide (fun w' (k : Nw wr (wr.heap.size + 1) wr.heap.size (O : Int) yP (mT O yP) w') => mBody O hO4 yP rfl k)
      have HAx : Hid (∃ W2 R, (Dg.mk [] (wts (min i 8))).add (Mac.keysOf seedB 4) (mN O yP).bytesB = (⟨[], W2⟩, [], R) ∧ ((O = 1 ∧ 8 ≤ i ∧ R = 3 ∧ W2.length = min i 8) ∨ (¬ (O = 1 ∧ 8 ≤ i) ∧ R = 123 ∧ W2.length = min i 8 + 1))) := by
        show Exists _
        rw [add_y hO4]
        by_cases h : O = 1 ∧ 8 ≤ i
        · rw [if_pos h]
          exact ⟨_, _, rfl, .inl ⟨h.1, h.2, rfl, wts_length _⟩⟩
        · rw [if_neg h]
          exact ⟨_, _, rfl, .inr ⟨h, rfl, by rw [List.length_append, wts_length]; rfl⟩⟩
      generalize hT0 : mT O yP = T0 at *
      clear hT0
      go_upto_region 17 with (first
        | (refine wpList_load_row rfl 51 _ rfl _ rfl _ _ _ _ N0.out.row Tryz.underlying51 rfl infoRN ?_)
        | (go_at_call 16; refine HTg.out.mono ?_; rintro e w7 ⟨rfl, k7⟩; have N7 := hide (N0.out.step k7); clear k7; have c11 := (cells12 N7.out.row).2.2.2.2.2.2.2.2.2.2.2; have f11 : w7.frozen? ⟨wr.heap.size + 1, 11, none⟩ = false := frozen_of_row _ _ _ _ _ N7.out.row))
      have N8 := hide (N7.out.tag T0)
      clear N7 N0 HTg c11 f11
      generalize w7.setCell ⟨wr.heap.size + 1, 11, none⟩ (.string T0) = w8 at *
      have r11 := cell_regrown (show w8.cell? ⟨wr.heap.size + 1, 11, none⟩ = some (.string T0) from (cells12 N8.out.row).2.2.2.2.2.2.2.2.2.2.2)
      have HB8 := hide (fun w' (k : Below w8.heap.size w8 w') => HBd.out w' (N8.out.step k))
      generalize hB0 : (mNd (O : Int) yP T0).bodyB = B0 at *
      clear hB0
      have hB0s : B0.size ≤ 1000 := HBy.out.2.1
      have hT0s : T0.size = 32 := HBy.out.2.2
      refine QuietCalls.tail2 6 1 (by kernel_rfl) (by kernel_rfl) ?_
      simp only [List.take_succ_cons, List.take_zero, List.drop_succ_cons, List.drop_zero]
      first | go_big_quiet_step (fail) | quiet_step (fail)
      refine QuietCalls.load rfl 51 _ rfl _ rfl _ _ _ _ N8.out.row Tryz.underlying51 rfl infoRN ?_; simp only [Act.put, List.setIfInBounds_toArray, List.set_cons_succ, List.set_cons_zero]
      refine QuietCalls.call1 rfl rfl Tryz.call17 (fun w' hb => HB8.out w' (by exact hb)) rfl ?_; simp only [Act.put, List.setIfInBounds_toArray, List.set_cons_succ, List.set_cons_zero]
      iterate 3 first | go_big_quiet_step (fail) | quiet_step (fail)
      refine wpQuiet_nil ?_
      intro w9 k9
      have N9 := hide (N8.out.step k9)
      clear k9 r11 HB8 HBd N8
      have B9 := hide (I.out.2.2.trans (N9.out.below.mono I.out.2.2.size))
      have HAd := hide (add12_any (B0 ++ T0) w9 (I.out.2.1.below N9.out.below) hks (by rw [ByteArray.size_append]; omega) (HX.out.1.below B9.out HX.out.1.pos) (HX.out.2.below B9.out HX.out.2.pos) hgb (by show ([] : Ns).length + (wts (min i 8)).length ≤ 90000; rw [wts_length]; simp; omega))
      obtain ⟨W2, R, hax, hR2⟩ := HAx.out
      rw [HBy.out.1, hax, I.out.1] at HAd
      rw [← HBy.out.1] at HAd
      dsimp only at HAd
      have HR2 := hide hR2
      clear hax hR2 HAx
      go_wp2_with (go_at_call 12; refine HAd.out.mono ?_; rintro e w10 ⟨v10, rfl, HQ⟩)
      simp only [QTail.Mid]
      iterate 4 first | go_big_quiet_step (fail) | quiet_step (fail)
      refine wpQuiet_nil ?_
      obtain ⟨F3, sl3, Q10⟩ := HQ.out
      have Q10 := hide Q10
      have k10 := Q10.out.tn.below (I.out.2.1.below N9.out.below).r.hasBase (I.out.2.1.below N9.out.below).r.size
      have B10 := hide (B9.out.trans (k10.mono hb2))
      have hbb : Hid (F3.b = F.b) := Q10.out.b.trans I.out.1
      clear HQ k10 HAd HBy
      have HW1 := hide (waitsLen_any w10 Q10.out.d.r)
      have HDr := hide (drop_any w10 Q10.out.d)
      have HW2 := hide (fun (w11 : World) (h : DagAt Tryz.prog 75 w2.heap.size { F3 with cv := .slice none 0 0 } (Mac.keysOf seedB 4) sl3 ⟨[], []⟩ w11) => waitsLen_any w11 h.r)
      have hl1 : (Dg.raw ⟨[], W2⟩).W.length = W2.length := rfl
      have hl2 : (Dg.raw ⟨[], []⟩).W.length = 0 := rfl
      have hl3 : (Dg.mk [] W2).waits.length = W2.length := rfl
      have hl4 : (Dg.mk [] W2).taken = [] := rfl
      rw [hl1] at HW1
      rw [hl2] at HW2
      rw [hl3, hl4] at HDr
      dsimp only at HW2 HDr
      rw [hbb.out] at HW1 HDr HW2
      clear hl1 hl2 hl3 hl4
      generalize W2.length = L at *
      have hyT := hide (yes_any true)
      have hyF := hide (yes_any false)
      rcases HR2.out with ⟨h1, h8, rfl, hL⟩ | ⟨hno, rfl, hL⟩
      · have hL8 : L = 8 := by omega
        clear hL HR2
        subst hL8
        have hO1'' : bits .and .i64 other 3 = 1 := by rw [hO1', h1]; rfl
        have h8' : (8 : Int) ≤ i := by omega
        clear h8 hlt' hO4 hO hB0s hT0s hO1' h1
        have hmin : ∀ w, (Builtin.min_ #[3, 3] 3 #[.int .i64 (i : Int), .int .i64 8]).run Tryz.prog w = .ok (.int .i64 8) w := fun w => by
          rw [Lib.run_min_ints, Int.min_eq_right h8']
        go_wp2_with (first
          | (go_at_call 18; refine HW1.out.mono ?_; rintro e wa ⟨rfl, hwa⟩; subst hwa; clear HW1)
          | (go_at_call 11; refine HDr.out.mono ?_; rintro e w11 ⟨rfl, hd11, ht11, hto11⟩; have H11 := hide (And.intro hd11 ht11); clear hd11 ht11 hto11 HDr)
          | (go_at_call 18; refine (HW2.out _ H11.out.1).mono ?_; rintro e wa ⟨rfl, hwa⟩; subst hwa; clear HW2)
          | (go_at_call 19; refine (hyF.out _).mono ?_; rintro e wa ⟨rfl, hwa⟩; subst hwa))
        go_ret
        exact ⟨rfl, B10.out.trans ((H11.out.2.below Q10.out.d.r.hasBase Q10.out.d.r.size).mono hb2)⟩
      · have hnf : (O : Int) = 1 → ¬ (8 : Int) ≤ i := by omega
        obtain ⟨m, hm⟩ : ∃ m, m = min i 8 := ⟨_, rfl⟩
        have hLm : L = m + 1 := by omega
        have hmi : min (i : Int) 8 = m := by omega
        have hm8 : m ≤ 8 := by omega
        have hmin : ∀ w, (Builtin.min_ #[3, 3] 3 #[.int .i64 (i : Int), .int .i64 8]).run Tryz.prog w = .ok (.int .i64 m) w := fun w => by
          rw [Lib.run_min_ints, hmi]
        have hwm : IntKind.i64.wrap ((m : Int) + 1) = m + 1 := Sha.wrap_i64 _ (by omega) (by omega)
        clear hL HR2 hm
        subst hLm
        have hc1 : ((m + 1 : Nat) : Int) = m + 1 := by simp
        rw [hc1] at HW1 HDr
        clear hlt' hO4 hO hB0s hT0s hno hc1
        by_cases h1 : (O : Int) = 1
        · have h8' := hnf h1
          rw [h1] at hO1'
          clear hnf h1
          go_wp2_with (first
            | (go_at_call 18; refine HW1.out.mono ?_; rintro e wa ⟨rfl, hwa⟩; subst hwa; clear HW1)
            | (go_at_call 11; refine HDr.out.mono ?_; rintro e w11 ⟨rfl, hd11, ht11, hto11⟩; have H11 := hide (And.intro hd11 ht11); clear hd11 ht11 hto11 HDr)
            | (go_at_call 18; refine (HW2.out _ H11.out.1).mono ?_; rintro e wa ⟨rfl, hwa⟩; subst hwa; clear HW2)
            | (go_at_call 19; refine (hyT.out _).mono ?_; rintro e wa ⟨rfl, hwa⟩; subst hwa))
          go_ret
          exact ⟨rfl, B10.out.trans ((H11.out.2.below Q10.out.d.r.hasBase Q10.out.d.r.size).mono hb2)⟩
        · clear hnf
          go_wp2_with (first
            | (go_at_call 18; refine HW1.out.mono ?_; rintro e wa ⟨rfl, hwa⟩; subst hwa; clear HW1)
            | (go_at_call 11; refine HDr.out.mono ?_; rintro e w11 ⟨rfl, hd11, ht11, hto11⟩; have H11 := hide (And.intro hd11 ht11); clear hd11 ht11 hto11 HDr)
            | (go_at_call 18; refine (HW2.out _ H11.out.1).mono ?_; rintro e wa ⟨rfl, hwa⟩; subst hwa; clear HW2)
            | (go_at_call 19; refine (hyT.out _).mono ?_; rintro e wa ⟨rfl, hwa⟩; subst hwa))
          go_ret
          exact ⟨rfl, B10.out.trans ((H11.out.2.below Q10.out.d.r.hasBase Q10.out.d.r.size).mono hb2)⟩
end Go.Proofs.YtkbboddibgfjbaaGreatDoor
