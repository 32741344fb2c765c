/- Several texts in one: NameTake, NameNumb, NameAssign, NameAll, NameAsg, NameAwake. -/
import Derived.Test.YtnbhchdaobimmaaGreatDoorRunAM
import Derived.Lib.LaidTab
import Derived.BigQuiet
import Derived.Laws.AppendOwn
/- Contracts: a folder of names as it lies; a name is taken, or is somebody's; a number's digits. -/
namespace Go.Proofs.YtnbhchdaobimmaaGreatDoor
open Go.RowKit Go.Names Go.MapFun Go.Maps
/-- What the listed table holds. -/
structure Vt (w : World) : Prop where
  tab : Lib.TabIs Tryz.prog w "internal/strconv.uint64pow10" .u64 Lib.pow10Tab
  size : 6 ≤ w.heap.size
set_option maxRecDepth 100000 in
theorem gPow : Tryz.prog.globalNamed "internal/strconv.uint64pow10" = some 3 := by kernel_rfl
set_option maxRecDepth 100000 in
theorem Vt.kept {w w' : World} (h : Vt w) (hz : w.heap.size ≤ w'.heap.size) (hb : ∀ k, k < 6 → w'.heap[k]? = w.heap[k]?) : Vt w' := by
  refine ⟨?_, Nat.le_trans h.size hz⟩
  have ht := h.tab
  unfold Lib.TabIs World.var? at ht ⊢
  rw [gPow] at ht ⊢
  simp only [Option.bind_some] at ht ⊢
  rw [hb 3 (by decide)]
  exact ht
set_option maxRecDepth 100000 in
theorem Vt.below {w w' : World} {B : Nat} (h : Vt w) (hB : 6 ≤ B) (hb : Below B w w') : Vt w' := h.kept hb.size fun k hk => hb.block k (by omega)
set_option maxRecDepth 100000 in
theorem grow_below {w : World} (k : Nat) (os : Array Obj) : Below w.heap.size w (Sort.grow (w.drewN k) os) := by
  refine ⟨rfl, rfl, rfl, ?_, fun j hj => ?_⟩
  · show w.heap.size ≤ (w.heap ++ os).size
    rw [Array.size_append]
    omega
  · show (w.heap ++ os)[j]? = w.heap[j]?
    rw [Array.getElem?_append_left hj]
set_option maxRecDepth 100000 in
theorem ba_size (a : Bs) : (⟨a.toArray⟩ : ByteArray).size = a.length := by show a.toArray.size = _; simp
set_option maxRecDepth 100000 in
theorem itoa_any (n : Nat) (w : World) (hv : Vt w) (hn : n < 1000000) :
    Calls Tryz.prog 139 #[.int .i64 n] w fun e w' => e = .returned (.string ⟨(dig n).toArray⟩) ∧ Below w.heap.size w w' := by
  have := Any.strconv_Itoa itoaL (n : Int) (by omega) (by omega) w hv.tab
  rw [Lib.itoa_nonneg] at this
  refine this.mono ?_
  rintro e w' ⟨he, k, os, rfl⟩
  exact ⟨he, grow_below k os⟩
/-- A folder as it lies: T the names that are taken, small; nx where rows go on. -/
structure FoAt (base N : Nat) (F : Fo) (T : List Bs) (nx : Key → Option Int) (w : World) : Prop where
  row : w.heap[F.fb]? = some (.cells #[.map (some F.tb), .map (some F.nb)] 167 (0, 0))
  tk : MapG Tryz.prog 9 Value.string unE N w F.tb (tkn T)
  nxt : MapG Tryz.prog 208 rowV i64E N w F.nb nx
  fb : base ≤ F.fb
  tb : base ≤ F.tb
  nb : base ≤ F.nb
  ne : F.tb ≠ F.nb
  bs : 6 ≤ base
  vt : Vt w
set_option maxRecDepth 100000 in
theorem FoAt.lt {base N : Nat} {F : Fo} {T : List Bs} {nx : Key → Option Int} {w : World} (h : FoAt base N F T nx w) : F.fb < w.heap.size ∧ F.tb < w.heap.size ∧ F.nb < w.heap.size ∧ base ≤ w.heap.size := by
  have h1 : F.fb < w.heap.size := by
    rcases Nat.lt_or_ge F.fb w.heap.size with h1 | h1
    · exact h1
    · have := h.row; rw [Array.getElem?_eq_none h1] at this; cases this
  have := h.fb
  exact ⟨h1, h.tk.lt, h.nxt.lt, by omega⟩
set_option maxRecDepth 100000 in
theorem FoAt.mono {base N N' : Nat} {F : Fo} {T : List Bs} {nx : Key → Option Int} {w : World} (h : FoAt base N F T nx w) (hN : N ≤ N') : FoAt base N' F T nx w := ⟨h.row, h.tk.mono hN, h.nxt.mono hN, h.fb, h.tb, h.nb, h.ne, h.bs, h.vt⟩
set_option maxRecDepth 100000 in
theorem FoAt.below {base N B : Nat} {F : Fo} {T : List Bs} {nx : Key → Option Int} {w w' : World} (h : FoAt base N F T nx w) (hB : w.heap.size ≤ B) (hb : Below B w w') : FoAt base N F T nx w' :=
  have ⟨l1, l2, l3, l4⟩ := h.lt
  ⟨(hb.block _ (by omega)).trans h.row, h.tk.below (by omega) hb, h.nxt.below (by omega) hb, h.fb, h.tb, h.nb, h.ne, h.bs, h.vt.below (by have := h.bs; omega) hb⟩
set_option maxRecDepth 100000 in
theorem FoAt.tnb {base N : Nat} {F : Fo} {T : List Bs} {nx : Key → Option Int} {w w' : World} (h : FoAt base N F T nx w) (k : FoTn F w w') : Below base w w' := k.below h.tb h.nb h.lt.2.2.2
set_option maxRecDepth 100000 in
/-- A name more is taken. -/
theorem FoAt.took {base N : Nat} {F : Fo} {T : List Bs} {nx : Key → Option Int} {w : World} (h : FoAt base N F T nx w) (s : ByteArray) (hs : s.size ≤ maxLen) (hN : N < maxLen) :
    ∃ w', (Instr.mapUpdate 164 (.map (some F.tb)) (.string s) (.agg #[])).run Tryz.prog w = .ok () w' ∧ FoAt base (N + 1) F (T ++ [s.data.toList]) nx w' ∧ FoTn F w w' := by
  obtain ⟨w', hrun, hm, hg⟩ := h.tk.update strKeyed tknUnder (fun x y e => by cases e; rfl) hN s (WideMaps.keyOf_string_mk (by kernel_rfl) hs) ()
  have ⟨l1, l2, l3, l4⟩ := h.lt
  have hne : F.fb ≠ F.tb := fun e => by
    obtain ⟨es, cl, hk⟩ := h.tk.kind
    have := h.row
    rw [e, hk] at this
    cases this
  have hblk : ∀ k, k < w.heap.size → k ≠ F.tb → w'.heap[k]? = w.heap[k]? := fun k hk h1 => hg.block k hk fun e => h1 (by cases e; rfl)
  refine ⟨w', hrun, ⟨(hblk _ l1 hne).trans h.row, ?_, (h.nxt.kept (hblk _ l3 (fun e => h.ne e.symm))).mono (Nat.le_succ _), h.fb, h.tb, h.nb, h.ne, h.bs, h.vt.kept hg.size fun k hk => hblk k (by have := h.vt.size; omega) (by have := h.bs; have := h.tb; omega)⟩, FoTn.of_taken hg⟩
  have e : (fun t => if t = s then some () else tkn T t) = tkn (T ++ [s.data.toList]) := by
    funext t
    unfold tkn
    by_cases e : t = s
    · subst e; simp
    · have : t.data.toList ≠ s.data.toList := fun h => e (ByteArray.ext (Array.toList_inj.1 h))
      simp [e, this]
  rw [← e]
  exact hm
set_option maxRecDepth 100000 in
/-- A row goes on elsewhere. -/
theorem FoAt.went {base N : Nat} {F : Fo} {T : List Bs} {nx : Key → Option Int} {w : World} (h : FoAt base N F T nx w) (c : ByteArray) (d : Nat) (v : Int) (hc : c.size ≤ maxLen) (hd : d ≤ 1000) (hN : N < maxLen) :
    ∃ w', (Instr.mapUpdate 165 (.map (some F.nb)) (.agg #[.string c, .int .i64 (d : Int)]) (.int .i64 v)).run Tryz.prog w = .ok () w' ∧ FoAt base (N + 1) F T (fun t => if t = (c, d) then some v else nx t) w' ∧ FoTn F w w' := by
  obtain ⟨l, hl⟩ := rowKey c d hc hd
  obtain ⟨w', hrun, hm, hg⟩ := h.nxt.update rowKeyed rowUnder rowV_inj hN (c, d) hl v
  have ⟨l1, l2, l3, l4⟩ := h.lt
  have hne : F.fb ≠ F.nb := fun e => by
    obtain ⟨es, cl, hk⟩ := h.nxt.kind
    have := h.row
    rw [e, hk] at this
    cases this
  have hblk : ∀ k, k < w.heap.size → k ≠ F.nb → w'.heap[k]? = w.heap[k]? := fun k hk h1 => hg.block k hk fun e => h1 (by cases e; rfl)
  exact ⟨w', hrun, ⟨(hblk _ l1 hne).trans h.row, (h.tk.kept (hblk _ l2 h.ne)).mono (Nat.le_succ _), hm, h.fb, h.tb, h.nb, h.ne, h.bs, h.vt.kept hg.size fun k hk => hblk k (by have := h.vt.size; omega) (by have := h.bs; have := h.nb; omega)⟩, FoTn.of_next hg⟩
set_option maxRecDepth 100000 in
theorem zeroUnit (w : World) : (zeroValue 205).run Tryz.prog w = .ok (.agg #[]) w := by kernel_rfl
set_option maxRecDepth 100000 in
theorem zeroInt (w : World) : (zeroValue 3).run Tryz.prog w = .ok (.int .i64 0) w := by kernel_rfl
set_option maxRecDepth 100000 in
set_option maxHeartbeats 1000000 in
theorem take_yes {base N : Nat} {F : Fo} {T : List Bs} {nx : Key → Option Int} (s : ByteArray) (w : World) (h : FoAt base N F T nx w) (hs : s.size ≤ 1000) (hN : N ≤ 100000000) (hno : fold s.data.toList ∉ T) :
    Calls Tryz.prog 114 #[.pointer (some ⟨F.fb, 0, none⟩), .string s] w fun e w' => e = .returned (.bool true) ∧ FoAt base (N + 1) F (T ++ [fold s.data.toList]) nx w' ∧ FoTn F w w' := by
  obtain ⟨K, hK⟩ : ∃ K : ByteArray, K = ⟨(fold s.data.toList).toArray⟩ := ⟨_, rfl⟩
  have hKd : K.data.toList = fold s.data.toList := by rw [hK]
  have hKs : K.size ≤ 1000 := by rw [hK, ba_size, fold_length]; simpa using hs
  have hc := fold_any s w (by omega)
  rw [← hK] at hc
  rw [← hKd] at hno ⊢
  clear hK hKd
  have H := hide h
  have hnk := hide (show tkn T K = none by unfold tkn; rw [if_neg hno])
  clear h hno
  go_enter Tryz.func114, Tryz.ntmps114
  go_wp2_with (go_at_call 138; refine hc.mono ?_; rintro e w1 ⟨rfl, k1⟩
               have H1 := hide (H.out.below (Nat.le_refl _) k1)
               have hrow := hide H1.out.row
               have c0 : w1.cell? ⟨F.fb, 0, none⟩ = some (.map (some F.tb)) := by rw [cell_of_row _ _ _ _ _ _ hrow.out]; rfl
               have hl : ∀ b, (Instr.lookup 164 (.map (some F.tb)) (.string K) b).run Tryz.prog w1 = .ok (got b (.agg #[]) unE (tkn T K)) w1 := fun b => H1.out.tk.look strKeyed tknUnder (zeroUnit w1) b K (WideMaps.keyOf_string_mk (by kernel_rfl) (by unfold maxLen; omega))
               replace hl : (Instr.lookup 164 (.map (some F.tb)) (.string K) true).run Tryz.prog w1 = .ok (.tuple #[.agg #[], .bool false]) w1 := by rw [hl, hnk.out]; rfl
               have kz : Below w1.heap.size w1 (w1.alloc (.cells #[] 205)) := (Below.refl _ w1).alloc (Nat.le_refl _) _
               have H2 := hide (H1.out.below (Nat.le_refl _) kz)
               have c1 : (w1.alloc (.cells #[] 205)).cell? ⟨F.fb, 0, none⟩ = some (.map (some F.tb)) := by rw [cell_of_row _ _ _ _ _ _ H2.out.row]; rfl
               obtain ⟨w3, hup, h3, t3⟩ := H2.out.took K (by unfold maxLen; omega) (by unfold maxLen; omega)
               have H3 := hide (And.intro h3 (((FoTn.of_below k1 (Nat.le_refl _)).trans (FoTn.of_below kz (Nat.le_refl _))).trans t3))
               clear h3 t3 kz k1 H2 H1 H hrow)
  go_ret
  exact ⟨rfl, H3.out⟩
set_option maxRecDepth 100000 in
set_option maxHeartbeats 1000000 in
theorem take_no {base N : Nat} {F : Fo} {T : List Bs} {nx : Key → Option Int} (s : ByteArray) (w : World) (h : FoAt base N F T nx w) (hs : s.size ≤ 1000) (hin : fold s.data.toList ∈ T) :
    Calls Tryz.prog 114 #[.pointer (some ⟨F.fb, 0, none⟩), .string s] w fun e w' => e = .returned (.bool false) ∧ FoAt base N F T nx w' ∧ FoTn F w w' := by
  obtain ⟨K, hK⟩ : ∃ K : ByteArray, K = ⟨(fold s.data.toList).toArray⟩ := ⟨_, rfl⟩
  have hKd : K.data.toList = fold s.data.toList := by rw [hK]
  have hKs : K.size ≤ 1000 := by rw [hK, ba_size, fold_length]; simpa using hs
  have hc := fold_any s w (by omega)
  rw [← hK] at hc
  rw [← hKd] at hin
  clear hK hKd
  have H := hide h
  have hnk := hide (show tkn T K = some () by unfold tkn; rw [if_pos hin])
  clear h hin
  go_enter Tryz.func114, Tryz.ntmps114
  go_wp2_with (go_at_call 138; refine hc.mono ?_; rintro e w1 ⟨rfl, k1⟩
               have H1 := hide (H.out.below (Nat.le_refl _) k1)
               have hrow := hide H1.out.row
               have c0 : w1.cell? ⟨F.fb, 0, none⟩ = some (.map (some F.tb)) := by rw [cell_of_row _ _ _ _ _ _ hrow.out]; rfl
               have hl : ∀ b, (Instr.lookup 164 (.map (some F.tb)) (.string K) b).run Tryz.prog w1 = .ok (got b (.agg #[]) unE (tkn T K)) w1 := fun b => H1.out.tk.look strKeyed tknUnder (zeroUnit w1) b K (WideMaps.keyOf_string_mk (by kernel_rfl) (by unfold maxLen; omega))
               replace hl : (Instr.lookup 164 (.map (some F.tb)) (.string K) true).run Tryz.prog w1 = .ok (.tuple #[.agg #[], .bool true]) w1 := by rw [hl, hnk.out]; rfl
               have kz : Below w1.heap.size w1 (w1.alloc (.cells #[] 205)) := (Below.refl _ w1).alloc (Nat.le_refl _) _
               have H2 := hide (And.intro (H1.out.below (Nat.le_refl _) kz) ((FoTn.of_below (F := F) k1 (Nat.le_refl _)).trans (FoTn.of_below kz (Nat.le_refl _))))
               clear kz k1 H1 H hrow)
  go_ret
  exact ⟨rfl, H2.out⟩
end Go.Proofs.YtnbhchdaobimmaaGreatDoor
/- Contract: the first name of a row of numbers that is nobody's. -/
namespace Go.Names
theorem nd_of {d m : Nat} (hd : 1 ≤ d) (h1 : 10 ^ (d - 1) ≤ m) (h2 : m < 10 * 10 ^ (d - 1)) : nd m = d := by
  have := Lib.nDigits_unique (d - 1) m h1 (by rw [Nat.pow_succ]; omega)
  unfold nd
  omega
theorem row_cand {own : Bs} {d m : Nat} (hd : 1 ≤ d) (h1 : 10 ^ (d - 1) ≤ m) (h2 : m < 10 * 10 ^ (d - 1)) : fold (own.take (31 - d)) ++ 126 :: dig m = fold (cand own m) := by
  rw [fold_cand, nd_of hd h1 h2]
theorem cand_row {own : Bs} {d m : Nat} (hd : 1 ≤ d) (h1 : 10 ^ (d - 1) ≤ m) (h2 : m < 10 * 10 ^ (d - 1)) : own.take (31 - d) ++ 126 :: dig m = cand own m := by
  unfold cand
  rw [nd_of hd h1 h2]
end Go.Names
namespace Go.Proofs.YtnbhchdaobimmaaGreatDoor
open Go.RowKit Go.Names Go.MapFun Go.Maps
set_option maxRecDepth 100000 in
theorem lt_of_block {w : World} {g : Nat} {o : Obj} (h : w.heap[g]? = some o) : g < w.heap.size := by
  rcases Nat.lt_or_ge g w.heap.size with h1 | h1
  · exact h1
  · rw [Array.getElem?_eq_none h1] at h; cases h
/-- A folder whose rows go on where they should. -/
def FoIs (base N : Nat) (F : Fo) (T : List Bs) (w : World) : Prop := ∃ nx, FoAt base N F T nx w ∧ OkN T nx
/-- What a search for a name leaves. -/
def FoEx (base N : Nat) (F : Fo) (T : List Bs) (w w' : World) : Prop := FoIs base N F T w' ∧ FoTn F w w'
set_option maxRecDepth 100000 in
set_option maxHeartbeats 2000000 in
theorem numbered_any {base N : Nat} {F : Fo} {T : List Bs} (own : ByteArray) (d first stop : Nat) (hit : Bool) (w : World) (h : FoIs base N F T w) (hown : own.size ≤ 32) (hd1 : 1 ≤ d) (hd3 : d ≤ 3) (hf : first = 10 ^ (d - 1))
    (h1 : first ≤ stop) (h2 : stop ≤ 10 * first) (hused : ∀ m, first ≤ m → m < stop → fold (cand own.data.toList m) ∈ T) (hN : N ≤ 10000000)
    (hyes : hit = true → stop < 10 * first ∧ fold (cand own.data.toList stop) ∉ T) (hno : hit = false → stop = 10 * first) :
    Calls Tryz.prog 115 #[.pointer (some ⟨F.fb, 0, none⟩), .string own, .int .i64 d, .int .i64 first] w fun e w' => e = .returned (.tuple #[.string (if hit then ⟨(cand own.data.toList stop).toArray⟩ else ⟨#[]⟩), .bool hit]) ∧ FoEx base (N + 3000) F (if hit then T ++ [fold (cand own.data.toList stop)] else T) w w' := by
  obtain ⟨nx, h, hok⟩ := h
  have hf1000 : first ≤ 100 := by
    rcases (by omega : d = 1 ∨ d = 2 ∨ d = 3) with e | e | e <;> subst e <;> omega
  have hf1 : 1 ≤ first := by rw [hf]; exact Nat.one_le_pow _ _ (by decide)
  obtain ⟨m, hm⟩ : ∃ m, m = min own.size (31 - d) := ⟨_, rfl⟩
  have hmi : min (own.size : Int) (31 - (d : Int)) = m := by omega
  have hmin : ∀ w, (Builtin.min_ #[3, 3] 3 #[.int .i64 (own.size : Int), .int .i64 (31 - (d : Int))]).run Tryz.prog w = .ok (.int .i64 m) w := fun w => by
    rw [Lib.run_min_ints, hmi]
  have hm1 : (m : Int) ≤ own.size := by omega
  obtain ⟨C, hC⟩ : ∃ C, own.extract 0 m = C := ⟨_, rfl⟩
  have hCd : C.data.toList = own.data.toList.take (31 - d) := by
    rw [← hC, cut_data, hm]
    by_cases h : own.size ≤ 31 - d
    · rw [List.take_of_length_le (by simp; omega), List.take_of_length_le (by simp; omega)]
    · rw [show min own.size (31 - d) = 31 - d by omega]
  have hCs : C.size ≤ 31 := by rw [← hC, ByteArray.size_extract]; omega
  obtain ⟨S, hS⟩ : ∃ S : ByteArray, S = ⟨(fold C.data.toList).toArray⟩ := ⟨_, rfl⟩
  have hSd : S.data.toList = fold (own.data.toList.take (31 - d)) := by rw [hS, hCd]
  have hSs : S.size ≤ 31 := by rw [hS, ba_size, fold_length]; simpa using hCs
  have hfold := hide (fold_any C w (by omega))
  rw [← hS] at hfold
  clear hS
  replace hC := hide hC
  replace hm := hide hm
  replace hCd := hide hCd
  replace hSd := hide hSd
  have HU := hide (And.intro hused (And.intro hyes hno))
  have hmax1 : ∀ v : Int, nx (S, d) = some v → v ≤ stop := by
    intro v hv
    obtain ⟨h5, h6⟩ := hok S d v hv
    rw [← hf] at h5 h6
    cases hh : hit with
    | false => rw [hno hh]; omega
    | true =>
      obtain ⟨h7, h8⟩ := hyes hh
      refine Classical.byContradiction fun hc => h8 ?_
      have := h5 stop h1 (by omega)
      rw [hSd.out, row_cand hd1 (by rw [← hf]; exact h1) (by rw [← hf]; exact h7)] at this
      exact this
  clear hused hyes hno
  obtain ⟨n0, hn0, hn1, hn2⟩ : ∃ n0 : Nat, max ((nx (S, d)).getD 0) (first : Int) = n0 ∧ first ≤ n0 ∧ n0 ≤ stop := by
    cases hv : nx (S, d) with
    | none => exact ⟨first, by show max (0 : Int) _ = _; omega, Nat.le_refl _, h1⟩
    | some v =>
      have := hmax1 v hv
      refine ⟨(max v (first : Int)).toNat, ?_, ?_, ?_⟩
      · show max v _ = _; omega
      · omega
      · omega
  have hmax : ∀ w, (Builtin.max_ #[3, 3] 3 #[.int .i64 ((nx (S, d)).getD 0), .int .i64 (first : Int)]).run Tryz.prog w = .ok (.int .i64 n0) w := fun w => by
    rw [Lib.run_max_ints, hn0]
  have hgot : Hid (got false (.int .i64 0) i64E (nx (S, d)) = .int .i64 ((nx (S, d)).getD 0)) := by
    show _ = _
    cases nx (S, d) <;> rfl
  generalize (nx (S, d)).getD 0 = v0 at hmax hgot hn0
  clear hn0 hmax1
  replace hf := hide hf
  have H := hide (And.intro h hok)
  clear h hok hmi
  go_enter Tryz.func115, Tryz.ntmps115
  go_upto_region 3 with (go_at_call 138; rw [hC.out]; refine hfold.out.mono ?_; rintro e w1 ⟨rfl, k1⟩)
  have kz : Below w1.heap.size w1 (w1.alloc (.cells #[.string S, .int .i64 (d : Int)] 208)) := (Below.refl _ w1).alloc (Nat.le_refl _) _
  have hrb : (w1.alloc (.cells #[.string S, .int .i64 (d : Int)] 208)).heap[w1.heap.size]? = some (.cells #[.string S, .int .i64 (d : Int)] 208 (0, 0)) := heap_alloc_new _ _
  have H1 := hide (And.intro ((H.out.1.below (Nat.le_refl _) k1).below (Nat.le_refl _) kz) (And.intro H.out.2 ((FoTn.of_below (F := F) k1 (Nat.le_refl _)).trans (FoTn.of_below kz (Nat.le_refl _)))))
  have hrlt : w.heap.size ≤ w1.heap.size := k1.size
  have hlt3 := H.out.1.lt
  have hrn : w1.heap.size ≠ F.tb ∧ w1.heap.size ≠ F.nb := by omega
  clear H k1 kz hfold hlt3
  generalize w1.alloc (.cells #[.string S, .int .i64 (d : Int)] 208) = W1 at hrb H1
  generalize w1.heap.size = rb at hrb hrlt hrn
  clear w1
  have HRB := hide hrb
  have c0 : W1.cell? ⟨F.fb, 1, none⟩ = some (.map (some F.nb)) := by rw [cell_of_row _ _ _ _ _ _ H1.out.1.row]; rfl
  have r0 : W1.cell? ⟨rb, 0, none⟩ = some (.string S) := by rw [cell_of_row _ _ _ _ _ _ hrb]; rfl
  have r1 : W1.cell? ⟨rb, 1, none⟩ = some (.int .i64 (d : Int)) := by rw [cell_of_row _ _ _ _ _ _ hrb]; rfl
  have hl : (Instr.lookup 165 (.map (some F.nb)) (.agg #[.string S, .int .i64 (d : Int)]) false).run Tryz.prog W1.drew = .ok (.int .i64 v0) W1.drew := by
    obtain ⟨l, hkey⟩ := rowKey S d (by unfold maxLen; omega) (by omega)
    have := (show MapG Tryz.prog 208 rowV i64E N W1.drew F.nb nx from H1.out.1.nxt).look rowKeyed rowUnder (zeroInt W1.drew) false (S, d) hkey
    rw [hgot.out] at this
    exact this
  clear hrb
  go_region
  have kd : Below W1.heap.size W1 W1.drew := (Below.refl _ W1).drew
  have H2 := hide (And.intro (H1.out.1.below (Nat.le_refl _) kd) (And.intro H1.out.2.1 (And.intro (H1.out.2.2.trans (FoTn.of_below kd (Nat.le_refl _))) (show W1.drew.heap[rb]? = some (.cells #[.string S, .int .i64 (d : Int)] 208 (0, 0)) from HRB.out))))
  clear c0 r0 r1 hl H1 HRB kd
  generalize W1.drew = W2 at H2
  clear W1
  clear hmin hmax hgot hm1
  go_wp2
  go_loopw [12] (fun vn wr => ∃ n : Nat, n ≤ stop ∧ first ≤ n ∧ vn = .int .i64 n ∧ Hid (∃ nx', FoAt base (N + 2 * n) F T nx' wr ∧ OkN T nx' ∧ FoTn F w wr ∧ wr.heap[rb]? = some (.cells #[.string S, .int .i64 (d : Int)] 208 (0, 0)))) (fun vn _ => stop - (intOf vn).toNat)
  case atStart => exact ⟨n0, hn2, hn1, rfl, nx, H2.out.1.mono (by omega), H2.out.2⟩
  case round =>
    clear H2 hn1 hn2
    obtain ⟨n, hns, hnf, rfl, HL⟩ := hrel
    by_cases hlt : n < 10 * first
    · have hlt' : (n : Int) < 10 * (first : Int) := by omega
      obtain ⟨nx', hL⟩ := HL.out
      replace hL := hide hL
      clear HL
      have c0 : wr.cell? ⟨F.fb, 1, none⟩ = some (.map (some F.nb)) := by rw [cell_of_row _ _ _ _ _ _ hL.out.1.row]; rfl
      have r0 : wr.cell? ⟨rb, 0, none⟩ = some (.string S) := by rw [cell_of_row _ _ _ _ _ _ hL.out.2.2.2]; rfl
      have r1 : wr.cell? ⟨rb, 1, none⟩ = some (.int .i64 (d : Int)) := by rw [cell_of_row _ _ _ _ _ _ hL.out.2.2.2]; rfl
      have kd : Below wr.heap.size wr wr.drew := (Below.refl _ wr).drew
      obtain ⟨w3, hup, h3, t3⟩ := (hL.out.1.below (Nat.le_refl _) kd).went S d ((n : Int) + 1) (by unfold maxLen; omega) (by omega) (by unfold maxLen; omega)
      have hrlt' : rb < wr.heap.size := lt_of_block hL.out.2.2.2
      have H3 := hide (And.intro h3 (And.intro (hL.out.2.2.1.trans ((FoTn.of_below kd (Nat.le_refl _)).trans t3)) (show w3.heap[rb]? = some (.cells #[.string S, .int .i64 (d : Int)] 208 (0, 0)) from (t3.block rb hrlt' hrn.1 hrn.2).trans hL.out.2.2.2)))
      clear h3 t3 kd
      have hpow := hf.out
      have hnd : nd n = d := nd_of hd1 (by omega) (by omega)
      obtain ⟨D, hD⟩ : ∃ D : ByteArray, D = ⟨(dig n).toArray⟩ := ⟨_, rfl⟩
      have hDs : D.size ≤ 20 := by rw [hD, ba_size, dig_length]; omega
      have HI := hide (itoa_any n w3 H3.out.1.vt (by omega))
      rw [← hD] at HI
      have hX : Hid ((C ++ ⟨#[126]⟩ ++ D).data.toList = cand own.data.toList n) := by
        show _ = _
        rw [ByteArray.data_append, ByteArray.data_append, hD, ← cand_row hd1 (by omega) (by omega), ← hCd.out]
        simp
      have hXs : Hid ((C ++ ⟨#[126]⟩ ++ D).size ≤ 1000) := by
        show _ ≤ _
        rw [ByteArray.size_append, ByteArray.size_append]
        have : (⟨#[126]⟩ : ByteArray).size = 1 := rfl
        omega
      have hmid : ∀ j : Nat, 10 ^ (d - 1) ≤ j → j < n → S.data.toList ++ 126 :: dig j ∈ T := fun j hj1 hj2 => by
        rw [hSd.out, row_cand hd1 hj1 (by omega)]
        exact HU.out.1 j (by omega) (by omega)
      replace hmid := hide hmid
      have hrow := hide (row_cand (own := own.data.toList) (d := d) (m := n) hd1 (by omega) (by omega))
      clear hD hpow hnd
      go_upto_region 6 with fail
      go_region
      clear hup c0 r0 r1
      by_cases hst : n < stop
      · have hin := hide (HU.out.1 n hnf hst)
        have hset : Hid (OkN T (fun t => if t = (S, d) then some ((n : Int) + 1) else nx' t)) := by
          refine hL.out.2.1.set S d _ (fun j hj1 hj2 => ?_) (by rw [← hf.out]; omega)
          by_cases hjn : j = n
          · subst hjn
            rw [hSd.out, hrow.out]
            exact hin.out
          · exact hmid.out j hj1 (by omega)
        go_wp2_with (first
          | (go_at_call 139; refine HI.out.mono ?_; rintro e w4 ⟨rfl, k4⟩)
          | (go_at_call 114; refine (take_no _ w4 (H3.out.1.below (Nat.le_refl _) k4) hXs.out (by rw [hX.out]; exact hin.out)).mono ?_; rintro e w5 ⟨rfl, h5, t5⟩
             have hb5 : w5.heap[rb]? = some (.cells #[.string S, .int .i64 (d : Int)] 208 (0, 0)) := (t5.block rb (by have := k4.size; have := H3.out.2.1.size; have := lt_of_block H3.out.2.2; omega) hrn.1 hrn.2).trans ((k4.block rb (lt_of_block H3.out.2.2)).trans H3.out.2.2)
             have H5 := hide (And.intro h5 (And.intro hset.out (And.intro ((H3.out.2.1.trans (FoTn.of_below k4 (Nat.le_refl _))).trans t5) hb5)))
             clear h5 t5 hb5))
        go_roundw
        case rel => exact ⟨n + 1, by omega, by omega, by go_num, _, H5.out.1.mono (by omega), H5.out.2⟩
        case measure => simp [intOf]; omega
      · have hsn : n = stop := by omega
        have hhit : hit = true := by
          cases hh : hit with
          | true => rfl
          | false => exact absurd (HU.out.2.2 hh) (by omega)
        have hout := hide (HU.out.2.1 hhit).2
        subst hsn
        subst hhit
        have hset : Hid (OkN (T ++ [fold (cand own.data.toList n)]) (fun t => if t = (S, d) then some ((n : Int) + 1) else nx' t)) := by
          refine (hL.out.2.1.more _).set S d _ (fun j hj1 hj2 => ?_) (by rw [← hf.out]; omega)
          by_cases hjn : j = n
          · subst hjn
            rw [hSd.out, hrow.out]
            simp
          · exact List.mem_append_left _ (hmid.out j hj1 (by omega))
        go_wp2_with (first
          | (go_at_call 139; refine HI.out.mono ?_; rintro e w4 ⟨rfl, k4⟩)
          | (go_at_call 114; refine (take_yes _ w4 (H3.out.1.below (Nat.le_refl _) k4) hXs.out (by omega) (by rw [hX.out]; exact hout.out)).mono ?_; rintro e w5 ⟨rfl, h5, t5⟩
             rw [hX.out] at h5
             have H5 := hide (And.intro h5 (And.intro hset.out ((H3.out.2.1.trans (FoTn.of_below k4 (Nat.le_refl _))).trans t5)))
             clear h5 t5))
        go_ret2
        have hXe : (C ++ ⟨#[126]⟩ ++ D : ByteArray) = ⟨(cand own.data.toList n).toArray⟩ := by
          apply ByteArray.ext
          rw [← Array.toList_inj, hX.out]
        exact ⟨by rw [← hXe]; rfl, ⟨_, H5.out.1.mono (by omega), H5.out.2.1⟩, H5.out.2.2⟩
    · have hlt' : ¬ (n : Int) < 10 * (first : Int) := by omega
      have hsn : stop = 10 * first := by omega
      have hhit : hit = false := by
        cases hh : hit with
        | false => rfl
        | true => exact absurd (HU.out.2.1 hh).1 (by omega)
      subst hhit
      go_wp2
      go_ret2
      obtain ⟨nx', hL⟩ := HL.out
      exact ⟨rfl, ⟨nx', hL.1.mono (by omega), hL.2.1⟩, hL.2.2.1⟩
end Go.Proofs.YtnbhchdaobimmaaGreatDoor
/- Contract: a name that may be, or the first one with a number that is nobody's yet. -/
namespace Go.Names
theorem nth_pos (own : Bs) {m : Nat} (h : 1 ≤ m) : nth own m = cand own m := by unfold nth; rw [if_neg (by omega)]
theorem used_below {T : List Bs} {own : Bs} {m : Nat} (h1 : 1 ≤ m) (h2 : m < pickN T own) : fold (cand own m) ∈ T := by
  have := (pickN_spec T own).2 m h2
  rwa [nth_pos own h1] at this
theorem pick_is {T : List Bs} {own : Bs} (h : 1 ≤ pickN T own) : pick T own = cand own (pickN T own) := nth_pos own h
theorem pick_out {T : List Bs} {own : Bs} (h : 1 ≤ pickN T own) : fold (cand own (pickN T own)) ∉ T := by
  have := (pickN_spec T own).1
  rwa [nth_pos own h] at this
theorem pickN_pos {T : List Bs} {own : Bs} (h : fold own ∈ T) : 1 ≤ pickN T own := by
  rcases Nat.eq_zero_or_pos (pickN T own) with h0 | h0
  · have := (pickN_spec T own).1
    rw [h0] at this
    exact absurd h this
  · exact h0
end Go.Names
namespace Go.Proofs.YtnbhchdaobimmaaGreatDoor
open Go.RowKit Go.Names Go.MapFun Go.Maps
set_option maxRecDepth 100000 in
theorem FoIs.mono {base N N' : Nat} {F : Fo} {T : List Bs} {w : World} (h : FoIs base N F T w) (hN : N ≤ N') : FoIs base N' F T w := by
  obtain ⟨nx, h1, h2⟩ := h
  exact ⟨nx, h1.mono hN, h2⟩
set_option maxRecDepth 100000 in
set_option maxHeartbeats 2000000 in
theorem assign_any {base N : Nat} {F : Fo} {T : List Bs} (own : ByteArray) (w : World) (h : FoIs base N F T w) (hown : own.size ≤ 32) (hT : T.length ≤ 900) (hN : N ≤ 5000000) :
    Calls Tryz.prog 87 #[.pointer (some ⟨F.fb, 0, none⟩), .string own] w fun e w' => e = .returned (.string ⟨(pick T own.data.toList).toArray⟩) ∧ FoEx base (N + 20000) F (T ++ [fold (pick T own.data.toList)]) w w' := by
  by_cases hin : fold own.data.toList ∈ T
  · have hp1 := pickN_pos hin
    have hp2 : pickN T own.data.toList ≤ 901 := Nat.le_trans (pickN_le T own.data.toList) (by omega)
    rw [pick_is hp1]
    have HP := hide (And.intro (pick_out hp1) (fun m (hm : 1 ≤ m ∧ m < pickN T own.data.toList) => used_below (T := T) (own := own.data.toList) hm.1 hm.2))
    generalize pickN T own.data.toList = p at HP hp1 hp2
    obtain ⟨nx, h1, hok⟩ := h
    have HT := hide (take_no own w h1 (by omega) hin)
    replace hok := hide hok
    clear h1 hin
    go_enter Tryz.func87, Tryz.ntmps87
    go_wp2_with (go_at_call 114; refine HT.out.mono ?_; rintro e w1 ⟨rfl, h1, t1⟩
                 have H1 := hide (show FoIs base N F T w1 ∧ FoTn F w w1 from ⟨⟨nx, h1, hok.out⟩, t1⟩)
                 clear h1 t1 HT)
    go_loopw [5, 6] (fun vf vd wr => ∃ d first : Nat, 1 ≤ d ∧ d ≤ 3 ∧ vf = .int .i64 first ∧ vd = .int .i64 d ∧ first ≤ p ∧ Hid (first = 10 ^ (d - 1) ∧ FoIs base (N + 3000 * d) F T wr ∧ FoTn F w wr)) (fun _ vd _ => 4 - (intOf vd).toNat)
    case atStart => exact ⟨1, 1, Nat.le_refl _, by omega, rfl, rfl, hp1, rfl, H1.out.1.mono (by omega), H1.out.2⟩
    case round =>
      clear H1 hok
      obtain ⟨d, first, hd1, hd3, rfl, rfl, hfp, HL⟩ := hrel
      have hf1000 : first ≤ 100 := by
        have := HL.out.1
        rcases (by omega : d = 1 ∨ d = 2 ∨ d = 3) with e | e | e <;> subst e <;> omega
      have hf1 : 1 ≤ first := by rw [HL.out.1]; exact Nat.one_le_pow _ _ (by decide)
      by_cases hlt : p < 10 * first
      · have HN := hide (numbered_any own d first p true wr HL.out.2.1 hown hd1 hd3 HL.out.1 hfp (by omega) (fun m hm1 hm2 => HP.out.2 m ⟨by omega, hm2⟩) (by omega) (fun _ => ⟨hlt, HP.out.1⟩) (fun h => by cases h))
        simp only [if_true] at HN
        go_wp2_with (go_at_call 115; refine HN.out.mono ?_; rintro e w2 ⟨rfl, h2⟩
                     have H2 := hide h2
                     clear h2 HN)
        go_ret
        exact ⟨rfl, H2.out.1.mono (by omega), HL.out.2.2.trans H2.out.2⟩
      · have hd2 : d ≤ 2 := by
          have := HL.out.1
          rcases (by omega : d = 1 ∨ d = 2 ∨ d = 3) with e | e | e <;> subst e <;> omega
        have HN := hide (numbered_any own d first (10 * first) false wr HL.out.2.1 hown hd1 hd3 HL.out.1 (by omega) (by omega) (fun m hm1 hm2 => HP.out.2 m ⟨by omega, by omega⟩) (by omega) (fun h => by cases h) (fun _ => rfl))
        simp only [Bool.false_eq_true, if_false] at HN
        go_wp2_with (go_at_call 115; refine HN.out.mono ?_; rintro e w2 ⟨rfl, h2⟩
                     have H2 := hide h2
                     clear h2 HN)
        go_roundw
        case rel => exact ⟨d + 1, 10 * first, by omega, by omega, by go_num, by go_num, by omega, by rw [HL.out.1, show d + 1 - 1 = (d - 1) + 1 by omega, Nat.pow_succ]; omega, H2.out.1.mono (by omega), HL.out.2.2.trans H2.out.2⟩
        case measure => simp [intOf]; omega
  · rw [pick_own hin]
    obtain ⟨nx, h1, hok⟩ := h
    have HT := hide (take_yes own w h1 (by omega) (by omega) hin)
    replace hok := hide hok
    go_enter Tryz.func87, Tryz.ntmps87
    go_wp2_with (go_at_call 114; refine HT.out.mono ?_; rintro e w1 ⟨rfl, h1, t1⟩
                 have H1 := hide (And.intro h1 t1)
                 clear h1 t1 HT)
    go_ret
    exact ⟨rfl, ⟨nx, H1.out.1.mono (by omega), hok.out.more _⟩, H1.out.2⟩
end Go.Proofs.YtnbhchdaobimmaaGreatDoor
/- Contract: the names of things below one folder. -/
theorem Go.old_alloc_NameAll (w : Go.World) (o : Go.Obj) (i : Nat) (h : i < w.heap.size) : (w.alloc o).heap[i]? = w.heap[i]? := by first | exact Go.heap_alloc_old w o i h | exact Go.heap_alloc_old w o h
namespace Go.Names
open Go.RowKit
theorem own_slice {W : World} {base e : Nat} {v : Value} {k : Nat} {xs : List Value} (h : W.ownsRow base e 1 v k xs) : ∃ a c, v = .slice a k c := by
  rcases h.2 with ⟨rfl, h0⟩ | ⟨j, cap, cur, rfl, _⟩
  · exact ⟨none, 0, by rw [h0]⟩
  · exact ⟨_, _, rfl⟩
theorem own_at {W : World} {base e : Nat} {v : Value} {k j : Nat} {xs : List Value} (h : W.ownsRow base e 1 v k xs) (ej : v.ownBlock = some j) : base ≤ j ∧ ∃ cur z, W.heap[j]? = some (.cells cur e z) := by
  rcases h.2 with ⟨rfl, _⟩ | ⟨b, cap, cur, rfl, h2, h3, _⟩
  · cases ej
  · cases ej; exact ⟨h2, _, _, h3⟩
theorem own_stays {W W' : World} {base : Nat} {e : TypeId} {v : Value} {k : Nat} {xs : List Value} (h : W.ownsRow base e 1 v k xs) (hb : ∀ j, v.ownBlock = some j → W'.heap[j]? = W.heap[j]?) : W'.ownsRow base e 1 v k xs := by
  obtain ⟨h0, h1⟩ := h
  refine ⟨h0, ?_⟩
  rcases h1 with h1 | ⟨j, cap, cur, rfl, h2, h3, h4⟩
  · exact .inl h1
  · exact .inr ⟨j, cap, cur, rfl, h2, (hb j rfl).trans h3, h4⟩
theorem cell_new (w : World) (x : Value) (t : TypeId) : ∀ j u, [x][j]? = some u → (w.alloc (.cells #[x] t)).cell? ((⟨w.heap.size, 0, none⟩ : Addr).add j) = some u := by
  intro j u hj
  match j, hj with
  | 0, hj => simp at hj; subst hj; simp [Addr.add]
/-- A slice of things with names, as it is read. -/
def Gvs (w : World) (v : Value) (gs : List (Int × ByteArray)) : Prop :=
  ((∃ a cap, v = .slice a 0 cap) ∧ gs = []) ∨ ∃ b off cap, v = .slice (some ⟨b, off, none⟩) gs.length cap ∧ b < w.heap.size ∧ gs.length ≤ cap ∧ ∀ j g, gs[j]? = some g → w.cell? ⟨b, off + j * 2, none⟩ = some (.int .u64 g.1) ∧ w.cell? ⟨b, off + j * 2 + 1, none⟩ = some (.string g.2)
theorem Gvs.form {w : World} {v : Value} {gs : List (Int × ByteArray)} (h : Gvs w v gs) : ∃ a c, v = .slice a gs.length c := by
  rcases h with ⟨⟨a, cap, h⟩, rfl⟩ | ⟨b, off, cap, h1, _⟩
  · exact ⟨a, cap, h⟩
  · exact ⟨_, cap, h1⟩
theorem Gvs.below {w w' : World} {v : Value} {gs : List (Int × ByteArray)} {B : Nat} (h : Gvs w v gs) (hB : w.heap.size ≤ B) (hb : Below B w w') : Gvs w' v gs := by
  rcases h with h | ⟨b, off, cap, h1, h2, h3, h4⟩
  · exact .inl h
  · exact .inr ⟨b, off, cap, h1, Nat.lt_of_lt_of_le h2 hb.size, h3, fun j g hj => by
      rw [hb.cell (p := ⟨b, off + j * 2, none⟩) (by show b < B; omega), hb.cell (p := ⟨b, off + j * 2 + 1, none⟩) (by show b < B; omega)]
      exact h4 j g hj⟩
theorem Gvs.at {w : World} {a : Option Addr} {n c : Nat} {gs : List (Int × ByteArray)} (h : Gvs w (.slice a n c) gs) (hn : 0 < n) : ∃ b off, a = some ⟨b, off, none⟩ ∧ b < w.heap.size ∧ n ≤ c ∧ ∀ j g, gs[j]? = some g → w.cell? ⟨b, off + j * 2, none⟩ = some (.int .u64 g.1) ∧ w.cell? ⟨b, off + j * 2 + 1, none⟩ = some (.string g.2) := by
  rcases h with ⟨⟨a', cap, h⟩, _⟩ | ⟨b, off, cap, h1, h2, h3, h4⟩
  · simp only [Value.slice.injEq] at h; omega
  · simp only [Value.slice.injEq] at h1
    obtain ⟨rfl, rfl, rfl⟩ := h1
    exact ⟨b, off, rfl, h2, h3, h4⟩
/-- The names of a list of things. -/
def namesOf (gs : List (Int × ByteArray)) : List Bs := gs.map fun g => g.2.data.toList
def strV (l : List Bs) : List Value := l.map fun x => .string ⟨x.toArray⟩
end Go.Names
namespace Go.Proofs.YtnbhchdaobimmaaGreatDoor
open Go.RowKit Go.Names Go.MapFun Go.Maps
set_option maxRecDepth 100000 in
theorem nUnderS : Tryz.prog.underlying 134 = some (.slice 9) := by kernel_rfl
set_option maxRecDepth 100000 in
theorem nInfo9 : (Tryz.prog.info? 9).map (fun i => (i.zero, i.size, i.bytes)) = some (some (.string ⟨#[]⟩), 1, 16) := by kernel_rfl
set_option maxRecDepth 100000 in
theorem FoAt.grown {base N : Nat} {F : Fo} {T : List Bs} {nx : Key → Option Int} {w w' : World} (h : FoAt base N F T nx w) (hs : w.heap.size ≤ w'.heap.size) (hb : ∀ k, k < w.heap.size → k = F.fb ∨ k = F.tb ∨ k = F.nb ∨ k < 6 → w'.heap[k]? = w.heap[k]?) : FoAt base N F T nx w' :=
  have ⟨l1, l2, l3, l4⟩ := h.lt
  ⟨(hb _ l1 (.inl rfl)).trans h.row, h.tk.kept (hb _ l2 (.inr (.inl rfl))), h.nxt.kept (hb _ l3 (.inr (.inr (.inl rfl)))), h.fb, h.tb, h.nb, h.ne, h.bs, h.vt.kept hs fun k hk => hb k (by have := h.vt.size; omega) (.inr (.inr (.inr hk)))⟩
/-- What Assign keeps. -/
structure An (W : World) (N : Nat) (F : Fo) (T : List Bs) (vo : Value) (outs : List Bs) (w : World) : Prop where
  fo : FoIs W.heap.size N F T w
  own : w.ownsRow W.heap.size 9 1 vo outs.length (strV outs)
  below : Below W.heap.size W w
set_option maxRecDepth 100000 in
theorem An.step {W w w' : World} {N : Nat} {F : Fo} {T : List Bs} {vo : Value} {outs : List Bs} (h : An W N F T vo outs w) (k : Below w.heap.size w w') : An W N F T vo outs w' := by
  obtain ⟨nx, h1, h2⟩ := h.fo
  refine ⟨⟨nx, h1.below (Nat.le_refl _) k, h2⟩, own_stays h.own (fun j hj => ?_), h.below.trans (k.mono h.below.size)⟩
  obtain ⟨_, cur, z, hc⟩ := own_at h.own hj
  exact k.block j (lt_of_block hc)
set_option maxRecDepth 100000 in
theorem An.turn {W w w' : World} {N N' : Nat} {F : Fo} {T T' : List Bs} {vo : Value} {outs : List Bs} (h : An W N F T vo outs w) (k : FoEx W.heap.size N' F T' w w') : An W N' F T' vo outs w' := by
  obtain ⟨nx, h1, h2⟩ := h.fo
  obtain ⟨k1, k2⟩ := k
  refine ⟨k1, own_stays h.own (fun j hj => ?_), h.below.trans (h1.tnb k2)⟩
  obtain ⟨_, cur, z, hc⟩ := own_at h.own hj
  refine k2.block j (lt_of_block hc) (fun e => ?_) (fun e => ?_)
  · obtain ⟨es, cl, hk⟩ := h1.tk.kind
    rw [e, hk] at hc
    cases hc
  · obtain ⟨es, cl, hk⟩ := h1.nxt.kind
    rw [e, hk] at hc
    cases hc
set_option maxRecDepth 100000 in
/-- append(names, x). -/
theorem An.append {W w : World} {N : Nat} {F : Fo} {T : List Bs} {a0 : Option Addr} {n0 c0 : Nat} {outs : List Bs} (h : An W N F T (.slice a0 n0 c0) outs w) (x : Bs) (hlen : outs.length ≤ 1000)
    {ops : Array Oper} {rest : List Oper} {o : Oper} {a : Act} {Q : Exit → Act → World → Prop} (hg : o.guard = none) (s y : Operand)
    (ho : o.op = .call { callee := .builtin .append, args := #[s, y], argTypes := #[134, 134] }) (hs : a.eval s = .slice a0 n0 c0) (hy : a.eval y = .slice (some ⟨w.heap.size, 0, none⟩) 1 1) {tt : TypeId}
    (k : ∀ a1 c1 w1, An W N F T (.slice a1 (outs.length + 1) c1) (outs ++ [x]) w1 → wpList Tryz.prog ops Q rest (a.put o.dst (.slice a1 (outs.length + 1) c1)) w1) : wpList Tryz.prog ops Q (o :: rest) a (w.alloc (.cells #[.string ⟨x.toArray⟩] tt)) := by
  obtain ⟨i9, hi9, hz0, hz1, hz2⟩ := info_parts nInfo9
  have hsz := h.below.size
  refine wpList_append_own _ hg s y 134 ho W.heap.size 9 i9 (.string ⟨#[]⟩) 1 16 nUnderS hi9 hz0 hz1 hz2 rfl (by decide) _ _ _ hs (h.own.alloc _) ⟨w.heap.size, 0, none⟩ 1 1 [.string ⟨x.toArray⟩] hy rfl (cell_new _ _ _) (fun u hu => by simp at hu; subst hu; rfl) (by unfold maxLen; omega) (by omega) (by simp; omega) ?_
  intro v' w1 hown hgrow _
  obtain ⟨a1, c1, rfl⟩ := own_slice hown
  refine k a1 c1 w1 ?_
  obtain ⟨nx, h1, h2⟩ := h.fo
  have ⟨l1, l2, l3, l4⟩ := h1.lt
  have hblk : ∀ j, j < w.heap.size → some j ≠ (Value.slice a0 n0 c0).ownBlock → w1.heap[j]? = w.heap[j]? := fun j hj hne => (hgrow.block j (by simp; omega) hne).trans (Go.old_alloc_NameAll _ _ _ hj)
  refine ⟨⟨nx, h1.grown (by have := hgrow.size; simp at this; omega) (fun j hj hc => hblk j hj (fun e => ?_)), h2⟩, ?_, ?_⟩
  · obtain ⟨hbs, cur, z, hcur⟩ := own_at h.own e.symm
    rcases hc with rfl | rfl | rfl | hc
    · have := h1.row; rw [hcur] at this; cases this
    · obtain ⟨es, cl, hk⟩ := h1.tk.kind; rw [hcur] at hk; cases hk
    · obtain ⟨es, cl, hk⟩ := h1.nxt.kind; rw [hcur] at hk; cases hk
    · have := h1.bs; omega
  · rw [List.length_append]
    unfold strV at hown ⊢
    rw [List.map_append]
    exact hown
  · exact (h.below.alloc hsz _).grown hgrow (by simp; omega) fun j e => (own_at h.own e).1
end Go.Proofs.YtnbhchdaobimmaaGreatDoor
/- Contract: Assign of any things. -/
namespace Go.Proofs.YtnbhchdaobimmaaGreatDoor
open Go.RowKit Go.Names Go.MapFun Go.Maps
set_option maxRecDepth 100000 in
theorem names_at {gs : List (Int × ByteArray)} {j : Nat} {g : Int × ByteArray} (h : gs[j]? = some g) : (namesOf gs)[j]? = some g.2.data.toList := by
  unfold namesOf
  rw [List.getElem?_map, h]
  rfl
set_option maxRecDepth 100000 in
theorem new_folder (W : World) (hv : Vt W) : An W 0 ⟨W.heap.size + 2, W.heap.size, W.heap.size + 1⟩ [] (.slice none 0 0) [] (((W.alloc (.map #[] 0)).alloc (.map #[] 0)).alloc (.cells #[.map (some W.heap.size), .map (some (W.heap.size + 1))] 167)) := by
  have k1 : Below W.heap.size W (W.alloc (.map #[] 0)) := (Below.refl _ W).alloc (Nat.le_refl _) _
  have k2 : Below (W.alloc (.map #[] 0)).heap.size (W.alloc (.map #[] 0)) ((W.alloc (.map #[] 0)).alloc (.map #[] 0)) := (Below.refl _ _).alloc (Nat.le_refl _) _
  have k3 : Below ((W.alloc (.map #[] 0)).alloc (.map #[] 0)).heap.size ((W.alloc (.map #[] 0)).alloc (.map #[] 0)) (((W.alloc (.map #[] 0)).alloc (.map #[] 0)).alloc (.cells #[.map (some W.heap.size), .map (some (W.heap.size + 1))] 167)) := (Below.refl _ _).alloc (Nat.le_refl _) _
  have m1 := MapG.made Tryz.prog 9 Value.string unE W
  have m2 := MapG.made Tryz.prog 208 rowV i64E (W.alloc (.map #[] 0))
  have s1 : (W.alloc (.map #[] 0)).heap.size = W.heap.size + 1 := by simp
  have s2 : ((W.alloc (.map #[] 0)).alloc (.map #[] 0)).heap.size = W.heap.size + 2 := by simp
  have e3 := heap_alloc_new ((W.alloc (.map #[] 0)).alloc (.map #[] 0)) (.cells #[.map (some W.heap.size), .map (some (W.heap.size + 1))] 167 (0, 0))
  rw [s2] at e3
  rw [s1] at m2
  have kk : Below W.heap.size W (((W.alloc (.map #[] 0)).alloc (.map #[] 0)).alloc (.cells #[.map (some W.heap.size), .map (some (W.heap.size + 1))] 167)) := (k1.trans (k2.mono (by omega))).trans (k3.mono (by omega))
  have hT : (fun _ => none : ByteArray → Option Unit) = tkn [] := by funext s; simp [tkn]
  rw [hT] at m1
  refine ⟨⟨fun _ => none, ⟨e3, ?_, ?_, by simp, by simp, by simp, by simp, hv.size, hv.below hv.size kk⟩, OkN.none _⟩, World.ownsRow_nil _ _ _ _, kk⟩
  · exact (m1.below (by omega) k2).below (by show W.heap.size < _; omega) k3
  · exact m2.below (by show W.heap.size + 1 < _; omega) k3
set_option maxRecDepth 100000 in
set_option maxHeartbeats 2000000 in
theorem assignAll_any (v : Value) (gs : List (Int × ByteArray)) (W : World) (hv : Vt W) (hg : Gvs W v gs) (hl : gs.length ≤ 130) (hs : ∀ g ∈ gs, g.2.size ≤ 1000000) :
    Calls Tryz.prog 59 #[v] W fun e w' => ∃ a c, e = .returned (.slice a gs.length c) ∧ w'.ownsRow W.heap.size 9 1 (.slice a gs.length c) gs.length (strV (asg (namesOf gs))) ∧ Below W.heap.size W w' := by
  obtain ⟨va, vc, rfl⟩ := hg.form
  have hnl : (namesOf gs).length = gs.length := List.length_map _
  have HN := hide (new_folder W hv)
  have HS := hide hs
  have HG := hide hg
  clear hg hs hv
  replace hnl := hide hnl
  go_enter Tryz.func59, Tryz.ntmps59
  have hmk := @run_makeMap Tryz.prog
  go_wp2
  clear hmk
  go_loopw [4, 12] (fun vo vi wr => ∃ (i : Nat) (oa : Option Addr) (oc : Nat), i ≤ gs.length ∧ vo = .slice oa i oc ∧ vi = .int .i64 i ∧ Hid (An W (20000 * i) ⟨W.heap.size + 2, W.heap.size, W.heap.size + 1⟩ ((asg ((namesOf gs).take i)).map fold) (.slice oa i oc) (asg ((namesOf gs).take i)) wr)) (fun _ vi _ => 1000 - (intOf vi).toNat)
  case atStart => exact ⟨0, none, 0, Nat.zero_le _, rfl, rfl, HN.out⟩
  case round =>
    clear HN
    obtain ⟨i, oa, oc, hi, rfl, rfl, HH⟩ := hrel
    by_cases hlt : i < gs.length
    · have hlt' : (i : Int) < gs.length := by omega
      obtain ⟨⟨id, nm⟩, hgi⟩ : ∃ g, gs[i]? = some g := ⟨_, List.getElem?_eq_getElem hlt⟩
      have hns := HS.out _ (List.mem_of_getElem? hgi)
      have hnext := hide (asg_take_succ (namesOf gs) (names_at hgi))
      obtain ⟨b, off, rfl, hbW, hnc, hcell⟩ := (HG.out.below (Nat.le_refl _) HH.out.below).at (by omega)
      obtain ⟨hc0, hc1⟩ := hcell i _ hgi
      have hnc' : (gs.length : Int) ≤ vc := by omega
      clear hcell
      have hLn : Hid ((asg ((namesOf gs).take i)).length = i) := by
        show _ = _
        rw [asg_length, List.length_take, hnl.out]
        omega
      generalize asg ((namesOf gs).take i) = outs at HH hnext hLn
      obtain ⟨X, hX⟩ : ∃ X : ByteArray, X = ⟨(fix nm.data.toList).toArray⟩ := ⟨_, rfl⟩
      have hXd : fix nm.data.toList = X.data.toList := by rw [hX]
      have hXs : X.size ≤ 32 := by rw [hX, ba_size]; exact (fix_length _).2
      have HF := hide (fun w1 => fix_any nm w1 hns)
      rw [← hX] at HF
      rw [hXd] at hnext
      have hTl : Hid ((outs.map fold).length ≤ 900) := by show _ ≤ _; rw [List.length_map, hLn.out]; omega
      clear hX hXd hgi HG hbW
      go_wp2_with (first
        | (go_at_call 88; refine (HF.out _).mono ?_; rintro e w1 ⟨rfl, k1⟩
           have H1 := hide ((HH.out.step ((Below.refl _ wr).alloc (Nat.le_refl _) _)).step k1)
           clear k1)
        | (go_at_call 87; refine (assign_any X w1 H1.out.fo hXs hTl.out (by omega)).mono ?_; rintro e w2 ⟨rfl, k2⟩
           have H2 := hide (H1.out.turn k2)
           clear k2)
        | (at_builtin; refine H2.out.append (pick (outs.map fold) X.data.toList) (by rw [hLn.out]; omega) rfl _ _ rfl rfl rfl ?_
           intro a1 c1 w3 h3
           have H3 := hide h3
           clear h3))
      go_roundw
      case rel =>
        refine ⟨i + 1, a1, c1, by omega, by rw [hLn.out], by go_num, ?_⟩
        show An _ _ _ _ _ _ _
        rw [hnext.out, List.map_append]
        have := H3.out
        rw [hLn.out] at this
        exact ⟨this.fo.mono (by omega), this.own, this.below⟩
      case measure => simp [intOf]; omega
    · have hlt' : ¬ (i : Int) < gs.length := by omega
      have hig : i = gs.length := by omega
      subst hig
      go_wp2
      go_ret
      have h9 := HH.out
      rw [List.take_of_length_le (by rw [hnl.out]; exact Nat.le_refl _)] at h9
      have h8 := h9.own
      rw [asg_length, hnl.out] at h8
      exact ⟨_, _, rfl, h8, h9.below⟩
end Go.Proofs.YtnbhchdaobimmaaGreatDoor
/- Contracts: a text that is not too long; two names that are alike, small. -/
namespace Go.Names
/-- At most 300 bytes of a text. -/
def few (s : ByteArray) : ByteArray := if 300 < s.size then s.extract 0 300 else s
end Go.Names
namespace Go.Proofs.YtnbhchdaobimmaaGreatDoor
open Go.RowKit Go.Names
end Go.Proofs.YtnbhchdaobimmaaGreatDoor
