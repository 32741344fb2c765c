/- The walk of MerkleBytes. -/
import Derived.Test.YtoopaeahhbkncaaDoorMerkleCode
import Derived.Test.YtoopaeahhbkncaaDoorMerkleAwake
import Derived.Deep.DeepCutAuto
import Derived.Deep.CutBlock
namespace Go.Proofs.YtoopaeahhbkncaaDoor
open Go.RowKit Go.Shelf Go.Wire Go.Mk Go.Chunk
attribute [local go_sem] Oper.semAt_some
theorem reads_most {w : World} {a : Option Addr} {c : Nat} {xs : List ByteArray} (k : Nat) (h : StrRow.Reads w (.slice a xs.length c) xs) : StrRow.Reads w (.slice a (min xs.length k) c) (xs.take k) := by
  rcases h with ⟨⟨a', cap, h⟩, rfl⟩ | ⟨b, off, cap, h1, h2, h3, h4⟩
  · exact .inl ⟨⟨a, c, by simp⟩, by simp⟩
  · cases h1
    have hl : (xs.take k).length = min xs.length k := by rw [List.length_take]; omega
    refine .inr ⟨b, off, c, by rw [hl], h2, by omega, fun j s hj => ?_⟩
    have hjk : j < min xs.length k := by rw [← hl]; exact (List.getElem?_eq_some_iff.1 hj).1
    rw [List.getElem?_take_of_lt (by omega)] at hj
    exact h4 j s hj
/-- Two manifests in their blocks, the digests of both. -/
structure Mb (W : World) (B G : Nat) (cs ds : Array Value) (T : TypeId) (u v : Value) (ys : List ByteArray) (w : World) : Prop where
  box : Bx W B cs T w
  row : w.heap[G]? = some (.cells ds T (0, 0))
  one : StrRow.Reads w u ys
  two : StrRow.Reads w v ys
theorem Mb.step {W : World} {B G : Nat} {cs ds : Array Value} {T : TypeId} {u v : Value} {ys : List ByteArray} {w w' : World} (h : Mb W B G cs ds T u v ys w) (k : Below w.heap.size w w') : Mb W B G cs ds T u v ys w' :=
  ⟨h.box.step k, kept_block h.row k, h.one.below k (Nat.le_refl _), h.two.below k (Nat.le_refl _)⟩
set_option maxRecDepth 100000 in
set_option maxHeartbeats 4000000 in
theorem merkleBytes_any (size : Int) (xs : List ByteArray) (v : Value) (s : ByteArray) (W : World) (hr : StrRow.Reads W v xs) (hm : xs.length ≤ maxLen) (hs : s.size ≤ maxLen) (hst : Steps W) :
    Calls Tryd.prog 4 #[.agg #[.int .i64 size, v], .string s] W fun e w' => e = .returned (.bool true) ∧ Below W.heap.size W w' := by
  obtain ⟨a, c, rfl⟩ := hr.form
  have HST := hide hst
  have HA := hide (fun (w' : World) (h : Below W.heap.size W w') => awake9_any w' (HST.out.kept h))
  have HI := hide (Bx.new W #[.int .i64 size, .slice a xs.length c] 26)
  have HR := hide (reads_most 300 hr)
  have hcap : xs.length ≤ c := by
    rcases hr with ⟨⟨_, _, _⟩, rfl⟩ | ⟨_, _, _, h1, _, h3, _⟩
    · exact Nat.zero_le _
    · cases h1; exact h3
  have ha : 300 < xs.length → ∃ b off, a = some ⟨b, off, none⟩ := fun hl => by
    rcases hr with ⟨⟨_, _, _⟩, rfl⟩ | ⟨b, off, _, h1, _, _, _⟩
    · simp at hl
    · cases h1; exact ⟨b, off, rfl⟩
  have HD0 := hide (fun (h0 : decE s = 0) (w' : World) => show Calls Tryd.prog 22 #[.string s] w' fun e w'' => ∃ v, e = .returned (.tuple #[.agg #[.int .i64 ((d1 s).2 : Nat), v], .int .i64 0]) ∧ w''.ownsRow w'.heap.size 9 1 v (d3 s).2.length ((d3 s).2.map Value.string) ∧ Below w'.heap.size w' w'' from
    (decode9_any s w' hs).mono fun e w'' ⟨v, m, ys, h1, h2, h3, h4⟩ => by
      rw [if_pos h0] at h1 h3
      subst h3
      rw [h0] at h1
      have h5 := h2.1
      rw [List.length_map, Nat.mul_one] at h5
      rw [← h5] at h2
      exact ⟨v, h1, h2, h4⟩)
  have HD1 := hide (fun (h0 : decE s ≠ 0) (w' : World) => show Calls Tryd.prog 22 #[.string s] w' fun e w'' => ∃ va vc, e = .returned (.tuple #[.agg #[.int .i64 0, .slice va 0 vc], .int .i64 (decE s)]) ∧ Below w'.heap.size w' w'' from
    (decode9_any s w' hs).mono fun e w'' ⟨v, m, ys, h1, h2, h3, h4⟩ => by
      rw [if_neg h0] at h1 h3
      subst h3
      have h5 := h2.1
      rw [List.map_nil, List.length_nil, Nat.mul_one] at h5
      subst h5
      obtain ⟨va, vc, rfl⟩ := own_slice h2
      exact ⟨va, vc, h1, h4⟩)
  have HE2 := hide (fun (h0 : decE s = 0) (v : Value) (w' : World) (h : StrRow.Reads w' v (d3 s).2) => show Calls Tryd.prog 20 #[.agg #[.int .i64 ((d1 s).2 : Nat), v]] w' fun e w'' => e = .returned (.tuple #[.string s, .int .i64 0]) ∧ Below w'.heap.size w' w'' from by
    obtain ⟨h1, h2⟩ := dec_man h0
    have := encode9_ok ((d1 s).2 : Nat) (d3 s).2 v w' h h2
    rw [Int.toNat_natCast, ← h1] at this
    exact this)
  clear hst hr
  go_enter Tryd.func4, Tryd.ntmps4
  have c1 : (W.alloc (.cells #[.int .i64 size, .slice a xs.length c] 26)).cell? ⟨W.heap.size, 1, none⟩ = some (.slice a xs.length c) := by rw [cell_of_row _ _ _ _ _ _ HI.out.row]; rfl
  have f1 : (W.alloc (.cells #[.int .i64 size, .slice a xs.length c] 26)).frozen? ⟨W.heap.size, 1, none⟩ = false := frozen_of_row _ _ _ _ _ HI.out.row
  go_upto_if 19 with fail
  go_cut [] (fun wx => Hid (Bx W W.heap.size #[.int .i64 size, .slice a (min xs.length 300) c] 26 wx))
  case first =>
    by_cases h3 : 300 < xs.length
    · obtain ⟨b, off, rfl⟩ := ha h3
      have h3' : (300 : Int) < xs.length := by omega
      have hc' : (300 : Int) ≤ c := by omega
      have HN : Hid (min xs.length 300 = 300) := by show _ = _; omega
      go_wp2_with fail
      go_meet
      rw [HN.out]
      exact Bx.new W _ _
    · have h3' : ¬ ((300 : Int) < xs.length) := by omega
      have HN : Hid (min xs.length 300 = xs.length) := by show _ = _; omega
      go_wp2_with fail
      go_meet
      rw [HN.out]
      exact HI.out
  obtain ⟨ys, hys⟩ : ∃ ys, ys = xs.take 300 := ⟨_, rfl⟩
  have hyl : min xs.length 300 = ys.length := by rw [hys, List.length_take]; omega
  have hy3 : ys.length ≤ 300 := by omega
  rw [← hys, hyl] at HR
  rw [hyl] at hcut
  clear hyl hys HI hcap ha hm hs c1 f1
  generalize decE s = DE at *
  generalize (d1 s).2 = A1 at *
  generalize (d3 s).2 = zs at *
  have HRR := hide (fun (w' : World) (h : Below W.heap.size W w') => HR.out.below h (Nat.le_refl _))
  have HRC := hide (fun (w' : World) (h : Below W.heap.size W w') => rcheck_any size ys _ w' (HRR.out w' h) (by omega))
  have HC := hide (fun (w' : World) (h : Below W.heap.size W w') => check_any size ys _ w' (HRR.out w' h))
  by_cases hk : chk size ys = 0
  · have HEN := hide (fun (w' : World) (h : Below W.heap.size W w') => encode9_ok size ys _ w' (HRR.out w' h) hk)
    obtain ⟨⟨z1, z2, z3, z4⟩, h32⟩ := chk_zero hk
    obtain ⟨n, rfl⟩ : ∃ n : Nat, size = n := ⟨size.toNat, by omega⟩
    obtain ⟨m1, m2, m3⟩ := man_dec hk
    rw [hk] at HRC HC
    rw [Int.toNat_natCast] at HEN m1 m2 m3
    have hlen := cat_length ys h32
    have hTX : (⟨(manBytes n ys).toArray⟩ : ByteArray).size = 16 + 32 * ys.length := by
      rw [size_list]
      simp only [manBytes, List.length_append, num_length, hlen]
    have HDT := hide (fun (w' : World) => show Calls Tryd.prog 22 #[.string ⟨(manBytes n ys).toArray⟩] w' fun e w'' => ∃ v, e = .returned (.tuple #[.agg #[.int .i64 n, v], .int .i64 0]) ∧ w''.ownsRow w'.heap.size 9 1 v ys.length (ys.map Value.string) ∧ Below w'.heap.size w' w'' from
      (decode9_any _ w' (by rw [hTX]; unfold maxLen; omega)).mono fun e w'' ⟨v, m, zs, h1, h2, h3, h4⟩ => by
        rw [if_pos m3, m1, m3] at h1
        rw [if_pos m3, m2] at h3
        subst h3
        have h5 := h2.1
        rw [List.length_map, Nat.mul_one] at h5
        rw [← h5] at h2
        exact ⟨v, h1, h2, h4⟩)
    obtain ⟨PF, HP0, HPS, HPN, HPZ⟩ : ∃ PF : Nat → ByteArray, Hid (PF 0 = numB 8 n ++ numB 8 ys.length) ∧ Hid (∀ i x, ys[i]? = some x → PF (i + 1) = PF i ++ x) ∧ Hid (PF ys.length = ⟨(manBytes n ys).toArray⟩) ∧ Hid (∀ i, (PF i).size ≤ 16 + 32 * ys.length) := by
      refine ⟨fun i => ⟨(num 8 n ++ num 8 ys.length ++ cat (ys.take i)).toArray⟩, ?_, ?_, ?_, ?_⟩
      · show (_ : ByteArray) = _
        apply ext_list
        rw [app_list, numB_list, numB_list]
        simp [cat]
      · intro i x hx
        apply ext_list
        dsimp only
        rw [app_list, List.take_add_one, hx, Option.toList_some, cat_app, cat_one]
        simp
      · show (_ : ByteArray) = _
        dsimp only
        rw [List.take_of_length_le (Nat.le_refl _)]
        rfl
      · intro i
        show (_ : ByteArray).size ≤ _
        rw [size_list]
        have := cat_length (ys.take i) (fun x hx => h32 x (List.mem_of_mem_take hx))
        have h2 := List.length_take_le i ys
        rw [List.length_take] at this
        simp only [List.length_append, num_length, this]
        omega
    have HN1 := hide (fun (w' : World) => rnum_any n 4 w' (by omega) (by decide))
    have HN2 := hide (fun (w' : World) => rnum_any ys.length 4 w' (by omega) (by decide))
    rw [show 2 * min 4 8 = 8 by decide] at HN1 HN2
    have hA8 : (numB 8 n).size = 8 := numB_size _ _
    have hB8 : (numB 8 ys.length).size = 8 := numB_size _ _
    have HSA := hide (fun (u v : Value) (w' : World) (hu : StrRow.Reads w' u ys) (hv : StrRow.Reads w' v ys) => same9_any ys u v w' hu hv (by omega))
    have hn8 : (n : Int) ≤ 8192 := by omega
    have hl8 : (ys.length : Int) ≤ 256 := by omega
    have H32 := hide h32
    generalize (⟨(manBytes n ys).toArray⟩ : ByteArray) = TX at *
    generalize numB 8 n = NA at *
    generalize numB 8 ys.length = NB at *
    have J := hcut
    have c0 : wc.cell? ⟨W.heap.size, 0, none⟩ = some (.int .i64 n) := by rw [cell_of_row _ _ _ _ _ _ J.out.row]; rfl
    have c1 : wc.cell? ⟨W.heap.size, 1, none⟩ = some (.slice a ys.length c) := by rw [cell_of_row _ _ _ _ _ _ J.out.row]; rfl
    clear hcut hk m1 m2 m3 z1 z2 z3 z4 h32 hlen hTX
    go_upto_if 56 with (first
      | (go_at_call 20; refine (HEN.out _ J.out.below).mono ?_; rintro e w1 ⟨rfl, k1⟩; replace J := hide (J.out.step k1); clear k1 c0 c1; have c0 : w1.cell? ⟨W.heap.size, 0, none⟩ = some (.int .i64 n) := (by rw [cell_of_row _ _ _ _ _ _ J.out.row]; rfl); have c1 : w1.cell? ⟨W.heap.size, 1, none⟩ = some (.slice a ys.length c) := (by rw [cell_of_row _ _ _ _ _ _ J.out.row]; rfl))
      | (go_at_call 21; refine (HRC.out _ J.out.below).mono ?_; rintro e w2 ⟨rfl, k2⟩; replace J := hide (J.out.step k2); clear k2 c0 c1; have c0 : w2.cell? ⟨W.heap.size, 0, none⟩ = some (.int .i64 n) := (by rw [cell_of_row _ _ _ _ _ _ J.out.row]; rfl); have c1 : w2.cell? ⟨W.heap.size, 1, none⟩ = some (.slice a ys.length c) := (by rw [cell_of_row _ _ _ _ _ _ J.out.row]; rfl))
      | (go_at_call 10; refine (HA.out _ J.out.below).mono ?_; rintro e w3 ⟨rfl, k3⟩; replace J := hide (J.out.step k3); clear k3 c0 c1; have c0 : w3.cell? ⟨W.heap.size, 0, none⟩ = some (.int .i64 n) := (by rw [cell_of_row _ _ _ _ _ _ J.out.row]; rfl); have c1 : w3.cell? ⟨W.heap.size, 1, none⟩ = some (.slice a ys.length c) := (by rw [cell_of_row _ _ _ _ _ _ J.out.row]; rfl))
      | (go_at_call 17; refine (HC.out _ J.out.below).mono ?_; rintro e w4 ⟨rfl, k4⟩; replace J := hide (J.out.step k4); clear k4 c0 c1; have c0 : w4.cell? ⟨W.heap.size, 0, none⟩ = some (.int .i64 n) := (by rw [cell_of_row _ _ _ _ _ _ J.out.row]; rfl); have c1 : w4.cell? ⟨W.heap.size, 1, none⟩ = some (.slice a ys.length c) := (by rw [cell_of_row _ _ _ _ _ _ J.out.row]; rfl)))
    go_cut [] (fun wx => Hid (Below W.heap.size W wx))
    case first =>
      clear HD0 HD1 HE2 HRC HC HEN HA HST
      go_upto_region 9 with (first
        | (go_at_call 22; refine (HDT.out _).mono ?_; rintro e w5 ⟨v, rfl, ho, k5⟩
           obtain ⟨va, vc, rfl⟩ := own_slice ho
           have L := hide (show Mb W W.heap.size w5.heap.size #[.int .i64 n, .slice a ys.length c] #[.int .i64 n, .slice va ys.length vc] 26 (.slice a ys.length c) (.slice va ys.length vc) ys (w5.alloc (.cells #[.int .i64 n, .slice va ys.length vc] 26)) from
             ⟨(J.out.step k5).step ((Below.refl _ w5).alloc (Nat.le_refl _) _), heap_alloc_new _ _, HRR.out _ ((J.out.step k5).step ((Below.refl _ w5).alloc (Nat.le_refl _) _)).below, (StrRow.Reads.of_own ho).below ((Below.refl _ w5).alloc (Nat.le_refl _) _) (Nat.le_refl _)⟩)
           clear ho k5 c0 c1 HDT))
      clear J HRR HR
      generalize w5.alloc (.cells #[.int .i64 n, .slice va ys.length vc] 26) = w6 at *
      have c0 : w6.cell? ⟨W.heap.size, 0, none⟩ = some (.int .i64 n) := by rw [cell_of_row _ _ _ _ _ _ L.out.box.row]; rfl
      have c1 : w6.cell? ⟨W.heap.size, 1, none⟩ = some (.slice a ys.length c) := by rw [cell_of_row _ _ _ _ _ _ L.out.box.row]; rfl
      have r0 := cell_regrown c0
      have r1 := cell_regrown c1
      have hw1 : IntKind.u64.wrap (n : Int) = n := by rw [wrap_u64]; omega
      have hw2 : IntKind.u64.wrap (ys.length : Int) = ys.length := by rw [wrap_u64]; omega
      refine QuietCalls.region (by kernel_rfl) (by kernel_rfl) ?_
      iterate 3 first | go_big_quiet_step (fail) | quiet_step (fail)
      refine QuietCalls.call2 rfl rfl Tryd.call23 (fun w _ => HN1.out w) rfl rfl ?_; simp only [Act.put, List.setIfInBounds_toArray, List.set_cons_succ, List.set_cons_zero]
      iterate 4 first | go_big_quiet_step (fail) | quiet_step (fail)
      refine QuietCalls.call2 rfl rfl Tryd.call23 (fun w _ => HN2.out w) rfl rfl ?_; simp only [Act.put, List.setIfInBounds_toArray, List.set_cons_succ, List.set_cons_zero]
      iterate 2 first | go_big_quiet_step (fail) | quiet_step (fail)
      refine wpQuiet_nil ?_
      intro w7 k7
      replace L := hide (L.out.step k7)
      clear k7 r0 r1 c0 c1 hw1 hw2 HN1 HN2
      rw [← HP0.out]
      have c0 : w7.cell? ⟨W.heap.size, 0, none⟩ = some (.int .i64 n) := by rw [cell_of_row _ _ _ _ _ _ L.out.box.row]; rfl
      have c1 : w7.cell? ⟨W.heap.size, 1, none⟩ = some (.slice a ys.length c) := by rw [cell_of_row _ _ _ _ _ _ L.out.box.row]; rfl
      have e0 : w7.cell? ⟨w5.heap.size, 0, none⟩ = some (.int .i64 n) := by rw [cell_of_row _ _ _ _ _ _ L.out.row]; rfl
      have e1 : w7.cell? ⟨w5.heap.size, 1, none⟩ = some (.slice va ys.length vc) := by rw [cell_of_row _ _ _ _ _ _ L.out.row]; rfl
      go_wp2_with fail
      go_loopw [10, 11] (fun vt vi wr => ∃ i : Nat, i ≤ ys.length ∧ vi = .int .i64 i ∧ vt = .string (PF i) ∧ Hid (wr = w7)) (fun _ vi _ => 256 - (intOf vi).toNat)
      case atStart => exact ⟨0, Nat.zero_le _, rfl, rfl, rfl⟩
      case round =>
        obtain ⟨i, hi, rfl, rfl, HE⟩ := hrel
        have he := HE.out
        subst he
        clear HE
        have hpz := HPZ.out i
        by_cases hlt : i < ys.length
        · have hlt' : (i : Int) < ys.length := by omega
          have hrd := L.out.one
          obtain ⟨b, off, cap, hv, hcap, hbl⟩ := hrd.at (by intro h; rw [h] at hlt; simp at hlt)
          simp only [Value.slice.injEq, true_and] at hv
          obtain ⟨rfl, rfl⟩ := hv
          obtain ⟨x, hx⟩ : ∃ x, ys[i]? = some x := ⟨_, List.getElem?_eq_getElem hlt⟩
          have hcell := hrd.cell hx
          have hxs : x.size = 32 := H32.out x (List.mem_of_getElem? hx)
          have HT := hide (HPS.out i x hx)
          clear hx hrd
          go_wp2_with fail
          go_roundw
          case rel => exact ⟨i + 1, by omega, by go_num, by rw [HT.out], trivial⟩
          case measure => simp [intOf]; omega
        · have hlt' : ¬ ((i : Int) < ys.length) := by omega
          have hin : i = ys.length := by omega
          subst hin
          rw [HPN.out]
          go_wp2_with (go_at_call 12; refine (HSA.out _ _ _ L.out.two L.out.one).mono ?_; rintro e w8 ⟨rfl, k8⟩; have HM := hide (L.out.step k8).box.below; clear k8)
          go_meet
          exact HM.out
    case rest =>
      have KB := hcut
      clear hcut
      by_cases hd : DE = 0
      · have HD' := hide (HD0.out hd)
        have HE' := hide (HE2.out hd)
        clear HD0 HD1 HE2 hd
        go_wp2_with (first
          | (go_at_call 22; refine (HD'.out _).mono ?_; rintro e w5 ⟨v, rfl, ho, k5⟩
             obtain ⟨va, vc, rfl⟩ := own_slice ho
             have HL : Hid (Bx W w5.heap.size #[.int .i64 A1, .slice va zs.length vc] 26 (w5.alloc (.cells #[.int .i64 A1, .slice va zs.length vc] 26)) ∧ StrRow.Reads (w5.alloc (.cells #[.int .i64 A1, .slice va zs.length vc] 26)) (.slice va zs.length vc) zs) := ⟨⟨heap_alloc_new _ _, (KB.out.trans (k5.mono KB.out.size)).alloc (Nat.le_trans KB.out.size k5.size) _⟩, (StrRow.Reads.of_own ho).below ((Below.refl _ w5).alloc (Nat.le_refl _) _) (Nat.le_refl _)⟩
             clear ho k5)
          | (refine wpList_load_row rfl 26 _ rfl _ rfl _ _ _ _ HL.out.1.row Tryd.underlying26 rfl infoMan ?_)
          | (go_at_call 20; refine (HE'.out _ _ HL.out.2).mono ?_; rintro e w6 ⟨rfl, k6⟩; have HM := hide (HL.out.1.step k6).below; clear k6))
        go_ret
        exact ⟨by simp, HM.out⟩
      · have HD' := hide (HD1.out hd)
        have hd0 : (DE == 0) = false := beq_eq_false_iff_ne.2 hd
        clear HD0 HD1 HE2 hd
        go_wp2_with (first
          | (go_at_call 22; refine (HD'.out _).mono ?_; rintro e w5 ⟨va, vc, rfl, k5⟩; have HM := hide ((KB.out.trans (k5.mono KB.out.size)).alloc (Nat.le_trans KB.out.size k5.size) (.cells #[.int .i64 0, .slice va 0 vc] 26)); clear k5))
        go_ret
        exact ⟨by simp, HM.out⟩
  · have HEN := hide (fun (w' : World) (h : Below W.heap.size W w') => encode9_no size ys _ w' (HRR.out w' h) hk)
    have hk0 : (chk size ys == 0) = false := beq_eq_false_iff_ne.2 hk
    have J := hcut
    have c0 : wc.cell? ⟨W.heap.size, 0, none⟩ = some (.int .i64 size) := by rw [cell_of_row _ _ _ _ _ _ J.out.row]; rfl
    have c1 : wc.cell? ⟨W.heap.size, 1, none⟩ = some (.slice a ys.length c) := by rw [cell_of_row _ _ _ _ _ _ J.out.row]; rfl
    clear hcut
    generalize chk size ys = K at *
    go_upto_region 16 with (first
      | (go_at_call 20; refine (HEN.out _ J.out.below).mono ?_; rintro e w1 ⟨rfl, k1⟩; replace J := hide (J.out.step k1); clear k1 c0 c1; have c0 : w1.cell? ⟨W.heap.size, 0, none⟩ = some (.int .i64 size) := (by rw [cell_of_row _ _ _ _ _ _ J.out.row]; rfl); have c1 : w1.cell? ⟨W.heap.size, 1, none⟩ = some (.slice a ys.length c) := (by rw [cell_of_row _ _ _ _ _ _ J.out.row]; rfl))
      | (go_at_call 21; refine (HRC.out _ J.out.below).mono ?_; rintro e w2 ⟨rfl, k2⟩; replace J := hide (J.out.step k2); clear k2 c0 c1; have c0 : w2.cell? ⟨W.heap.size, 0, none⟩ = some (.int .i64 size) := (by rw [cell_of_row _ _ _ _ _ _ J.out.row]; rfl); have c1 : w2.cell? ⟨W.heap.size, 1, none⟩ = some (.slice a ys.length c) := (by rw [cell_of_row _ _ _ _ _ _ J.out.row]; rfl))
      | (go_at_call 10; refine (HA.out _ J.out.below).mono ?_; rintro e w3 ⟨rfl, k3⟩; replace J := hide (J.out.step k3); clear k3 c0 c1; have c0 : w3.cell? ⟨W.heap.size, 0, none⟩ = some (.int .i64 size) := (by rw [cell_of_row _ _ _ _ _ _ J.out.row]; rfl); have c1 : w3.cell? ⟨W.heap.size, 1, none⟩ = some (.slice a ys.length c) := (by rw [cell_of_row _ _ _ _ _ _ J.out.row]; rfl))
      | (go_at_call 17; refine (HC.out _ J.out.below).mono ?_; rintro e w4 ⟨rfl, k4⟩; replace J := hide (J.out.step k4); clear k4 c0 c1; have c0 : w4.cell? ⟨W.heap.size, 0, none⟩ = some (.int .i64 size) := (by rw [cell_of_row _ _ _ _ _ _ J.out.row]; rfl); have c1 : w4.cell? ⟨W.heap.size, 1, none⟩ = some (.slice a ys.length c) := (by rw [cell_of_row _ _ _ _ _ _ J.out.row]; rfl)))
    clear c0 c1
    have KB := hide J.out.below
    clear J
    by_cases hd : DE = 0
    · have HD' := hide (HD0.out hd)
      have HE' := hide (HE2.out hd)
      clear HD0 HD1 HE2 hd
      go_wp2_with (first
        | (go_at_call 22; refine (HD'.out _).mono ?_; rintro e w5 ⟨v, rfl, ho, k5⟩
           obtain ⟨va, vc, rfl⟩ := own_slice ho
           have HL : Hid (Bx W w5.heap.size #[.int .i64 A1, .slice va zs.length vc] 26 (w5.alloc (.cells #[.int .i64 A1, .slice va zs.length vc] 26)) ∧ StrRow.Reads (w5.alloc (.cells #[.int .i64 A1, .slice va zs.length vc] 26)) (.slice va zs.length vc) zs) := ⟨⟨heap_alloc_new _ _, (KB.out.trans (k5.mono KB.out.size)).alloc (Nat.le_trans KB.out.size k5.size) _⟩, (StrRow.Reads.of_own ho).below ((Below.refl _ w5).alloc (Nat.le_refl _) _) (Nat.le_refl _)⟩
           clear ho k5)
        | (refine wpList_load_row rfl 26 _ rfl _ rfl _ _ _ _ HL.out.1.row Tryd.underlying26 rfl infoMan ?_)
        | (go_at_call 20; refine (HE'.out _ _ HL.out.2).mono ?_; rintro e w6 ⟨rfl, k6⟩; have HM := hide (HL.out.1.step k6).below; clear k6))
      go_ret
      exact ⟨by simp, HM.out⟩
    · have HD' := hide (HD1.out hd)
      have hd0 : (DE == 0) = false := beq_eq_false_iff_ne.2 hd
      clear HD0 HD1 HE2 hd
      go_wp2_with (first
        | (go_at_call 22; refine (HD'.out _).mono ?_; rintro e w5 ⟨va, vc, rfl, k5⟩; have HM := hide ((KB.out.trans (k5.mono KB.out.size)).alloc (Nat.le_trans KB.out.size k5.size) (.cells #[.int .i64 0, .slice va 0 vc] 26)); clear k5))
      go_ret
      exact ⟨by simp, HM.out⟩
end Go.Proofs.YtoopaeahhbkncaaDoor
