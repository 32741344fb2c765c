/- Contracts: a folder of names as it lies; a name is taken, or is somebody's; a number's digits. -/
import Derived.Test.YtpihgffcfoelbaaDoorNameMem
import Derived.Lib.LaidTab
namespace Go.Proofs.YtpihgffcfoelbaaDoor
open Go.RowKit Go.Names Go.MapFun Go.Maps
/-- What the listed table holds. -/
structure Vt (w : World) : Prop where
  tab : Lib.TabIs Tryd.prog w "internal/strconv.uint64pow10" .u64 Lib.pow10Tab
  size : 6 ≤ w.heap.size
theorem gPow : Tryd.prog.globalNamed "internal/strconv.uint64pow10" = some 3 := by kernel_rfl
theorem Vt.kept {w w' : World} (h : Vt w) (hz : w.heap.size ≤ w'.heap.size) (hb : ∀ k, k < 6 → w'.heap[k]? = w.heap[k]?) : Vt w' := by
  refine ⟨?_, Nat.le_trans h.size hz⟩
  have ht := h.tab
  unfold Lib.TabIs World.var? at ht ⊢
  rw [gPow] at ht ⊢
  simp only [Option.bind_some] at ht ⊢
  rw [hb 3 (by decide)]
  exact ht
theorem Vt.below {w w' : World} {B : Nat} (h : Vt w) (hB : 6 ≤ B) (hb : Below B w w') : Vt w' := h.kept hb.size fun k hk => hb.block k (by omega)
theorem grow_below {w : World} (k : Nat) (os : Array Obj) : Below w.heap.size w (Sort.grow (w.drewN k) os) := by
  refine ⟨rfl, rfl, rfl, ?_, fun j hj => ?_⟩
  · show w.heap.size ≤ (w.heap ++ os).size
    rw [Array.size_append]
    omega
  · show (w.heap ++ os)[j]? = w.heap[j]?
    rw [Array.getElem?_append_left hj]
theorem ba_append (a b : Bs) : (⟨a.toArray⟩ : ByteArray) ++ ⟨b.toArray⟩ = ⟨(a ++ b).toArray⟩ := by
  apply ByteArray.ext
  rw [ByteArray.data_append]
  simp
theorem ba_size (a : Bs) : (⟨a.toArray⟩ : ByteArray).size = a.length := by show a.toArray.size = _; simp
theorem itoa_any (n : Nat) (w : World) (hv : Vt w) (hn : n < 1000000) :
    Calls Tryd.prog 38 #[.int .i64 n] w fun e w' => e = .returned (.string ⟨(dig n).toArray⟩) ∧ Below w.heap.size w w' := by
  have := Any.strconv_Itoa itoaL (n : Int) (by omega) (by omega) w hv.tab
  rw [Lib.itoa_nonneg] at this
  refine this.mono ?_
  rintro e w' ⟨he, k, os, rfl⟩
  exact ⟨he, grow_below k os⟩
/-- A folder as it lies: T the names that are taken, small; nx where rows go on. -/
structure FoAt (base N : Nat) (F : Fo) (T : List Bs) (nx : Key → Option Int) (w : World) : Prop where
  row : w.heap[F.fb]? = some (.cells #[.map (some F.tb), .map (some F.nb)] 48 (0, 0))
  tk : MapG Tryd.prog 9 Value.string unE N w F.tb (tkn T)
  nxt : MapG Tryd.prog 60 rowV i64E N w F.nb nx
  fb : base ≤ F.fb
  tb : base ≤ F.tb
  nb : base ≤ F.nb
  ne : F.tb ≠ F.nb
  bs : 6 ≤ base
  vt : Vt w
theorem FoAt.lt {base N : Nat} {F : Fo} {T : List Bs} {nx : Key → Option Int} {w : World} (h : FoAt base N F T nx w) : F.fb < w.heap.size ∧ F.tb < w.heap.size ∧ F.nb < w.heap.size ∧ base ≤ w.heap.size := by
  have h1 : F.fb < w.heap.size := by
    rcases Nat.lt_or_ge F.fb w.heap.size with h1 | h1
    · exact h1
    · have := h.row; rw [Array.getElem?_eq_none h1] at this; cases this
  have := h.fb
  exact ⟨h1, h.tk.lt, h.nxt.lt, by omega⟩
theorem FoAt.mono {base N N' : Nat} {F : Fo} {T : List Bs} {nx : Key → Option Int} {w : World} (h : FoAt base N F T nx w) (hN : N ≤ N') : FoAt base N' F T nx w := ⟨h.row, h.tk.mono hN, h.nxt.mono hN, h.fb, h.tb, h.nb, h.ne, h.bs, h.vt⟩
theorem FoAt.below {base N B : Nat} {F : Fo} {T : List Bs} {nx : Key → Option Int} {w w' : World} (h : FoAt base N F T nx w) (hB : w.heap.size ≤ B) (hb : Below B w w') : FoAt base N F T nx w' :=
  have ⟨l1, l2, l3, l4⟩ := h.lt
  ⟨(hb.block _ (by omega)).trans h.row, h.tk.below (by omega) hb, h.nxt.below (by omega) hb, h.fb, h.tb, h.nb, h.ne, h.bs, h.vt.below (by have := h.bs; omega) hb⟩
theorem FoAt.tnb {base N : Nat} {F : Fo} {T : List Bs} {nx : Key → Option Int} {w w' : World} (h : FoAt base N F T nx w) (k : FoTn F w w') : Below base w w' := k.below h.tb h.nb h.lt.2.2.2
/-- A name more is taken. -/
theorem FoAt.took {base N : Nat} {F : Fo} {T : List Bs} {nx : Key → Option Int} {w : World} (h : FoAt base N F T nx w) (s : ByteArray) (hs : s.size ≤ maxLen) (hN : N < maxLen) :
    ∃ w', (Instr.mapUpdate 45 (.map (some F.tb)) (.string s) (.agg #[])).run Tryd.prog w = .ok () w' ∧ FoAt base (N + 1) F (T ++ [s.data.toList]) nx w' ∧ FoTn F w w' := by
  obtain ⟨w', hrun, hm, hg⟩ := h.tk.update strKeyed tknUnder (fun x y e => by cases e; rfl) hN s (WideMaps.keyOf_string_mk (by kernel_rfl) hs) ()
  have ⟨l1, l2, l3, l4⟩ := h.lt
  have hne : F.fb ≠ F.tb := fun e => by
    obtain ⟨es, cl, hk⟩ := h.tk.kind
    have := h.row
    rw [e, hk] at this
    cases this
  have hblk : ∀ k, k < w.heap.size → k ≠ F.tb → w'.heap[k]? = w.heap[k]? := fun k hk h1 => hg.block k hk fun e => h1 (by cases e; rfl)
  refine ⟨w', hrun, ⟨(hblk _ l1 hne).trans h.row, ?_, (h.nxt.kept (hblk _ l3 (fun e => h.ne e.symm))).mono (Nat.le_succ _), h.fb, h.tb, h.nb, h.ne, h.bs, h.vt.kept hg.size fun k hk => hblk k (by have := h.vt.size; omega) (by have := h.bs; have := h.tb; omega)⟩, FoTn.of_taken hg⟩
  have e : (fun t => if t = s then some () else tkn T t) = tkn (T ++ [s.data.toList]) := by
    funext t
    unfold tkn
    by_cases e : t = s
    · subst e; simp
    · have : t.data.toList ≠ s.data.toList := fun h => e (ByteArray.ext (Array.toList_inj.1 h))
      simp [e, this]
  rw [← e]
  exact hm
/-- A row goes on elsewhere. -/
theorem FoAt.went {base N : Nat} {F : Fo} {T : List Bs} {nx : Key → Option Int} {w : World} (h : FoAt base N F T nx w) (c : ByteArray) (d : Nat) (v : Int) (hc : c.size ≤ maxLen) (hd : d ≤ 1000) (hN : N < maxLen) :
    ∃ w', (Instr.mapUpdate 46 (.map (some F.nb)) (.agg #[.string c, .int .i64 (d : Int)]) (.int .i64 v)).run Tryd.prog w = .ok () w' ∧ FoAt base (N + 1) F T (fun t => if t = (c, d) then some v else nx t) w' ∧ FoTn F w w' := by
  obtain ⟨l, hl⟩ := rowKey c d hc hd
  obtain ⟨w', hrun, hm, hg⟩ := h.nxt.update rowKeyed rowUnder rowV_inj hN (c, d) hl v
  have ⟨l1, l2, l3, l4⟩ := h.lt
  have hne : F.fb ≠ F.nb := fun e => by
    obtain ⟨es, cl, hk⟩ := h.nxt.kind
    have := h.row
    rw [e, hk] at this
    cases this
  have hblk : ∀ k, k < w.heap.size → k ≠ F.nb → w'.heap[k]? = w.heap[k]? := fun k hk h1 => hg.block k hk fun e => h1 (by cases e; rfl)
  exact ⟨w', hrun, ⟨(hblk _ l1 hne).trans h.row, (h.tk.kept (hblk _ l2 h.ne)).mono (Nat.le_succ _), hm, h.fb, h.tb, h.nb, h.ne, h.bs, h.vt.kept hg.size fun k hk => hblk k (by have := h.vt.size; omega) (by have := h.bs; have := h.nb; omega)⟩, FoTn.of_next hg⟩
theorem zeroUnit (w : World) : (zeroValue 57).run Tryd.prog w = .ok (.agg #[]) w := by kernel_rfl
theorem zeroInt (w : World) : (zeroValue 3).run Tryd.prog w = .ok (.int .i64 0) w := by kernel_rfl
set_option maxRecDepth 100000 in
set_option maxHeartbeats 1000000 in
theorem take_yes {base N : Nat} {F : Fo} {T : List Bs} {nx : Key → Option Int} (s : ByteArray) (w : World) (h : FoAt base N F T nx w) (hs : s.size ≤ 1000) (hN : N ≤ 100000000) (hno : fold s.data.toList ∉ T) :
    Calls Tryd.prog 32 #[.pointer (some ⟨F.fb, 0, none⟩), .string s] w fun e w' => e = .returned (.bool true) ∧ FoAt base (N + 1) F (T ++ [fold s.data.toList]) nx w' ∧ FoTn F w w' := by
  obtain ⟨K, hK⟩ : ∃ K : ByteArray, K = ⟨(fold s.data.toList).toArray⟩ := ⟨_, rfl⟩
  have hKd : K.data.toList = fold s.data.toList := by rw [hK]
  have hKs : K.size ≤ 1000 := by rw [hK, ba_size, fold_length]; simpa using hs
  have hc := fold_any s w (by omega)
  rw [← hK] at hc
  rw [← hKd] at hno ⊢
  clear hK hKd
  have H := hide h
  have hnk := hide (show tkn T K = none by unfold tkn; rw [if_neg hno])
  clear h hno
  go_enter Tryd.func32, Tryd.ntmps32
  go_wp2_with (go_at_call 13; refine hc.mono ?_; rintro e w1 ⟨rfl, k1⟩
               have H1 := hide (H.out.below (Nat.le_refl _) k1)
               have hrow := hide H1.out.row
               have c0 : w1.cell? ⟨F.fb, 0, none⟩ = some (.map (some F.tb)) := by rw [cell_of_row _ _ _ _ _ _ hrow.out]; rfl
               have hl : ∀ b, (Instr.lookup 45 (.map (some F.tb)) (.string K) b).run Tryd.prog w1 = .ok (got b (.agg #[]) unE (tkn T K)) w1 := fun b => H1.out.tk.look strKeyed tknUnder (zeroUnit w1) b K (WideMaps.keyOf_string_mk (by kernel_rfl) (by unfold maxLen; omega))
               replace hl : (Instr.lookup 45 (.map (some F.tb)) (.string K) true).run Tryd.prog w1 = .ok (.tuple #[.agg #[], .bool false]) w1 := by rw [hl, hnk.out]; rfl
               have kz : Below w1.heap.size w1 (w1.alloc (.cells #[] 57)) := (Below.refl _ w1).alloc (Nat.le_refl _) _
               have H2 := hide (H1.out.below (Nat.le_refl _) kz)
               have c1 : (w1.alloc (.cells #[] 57)).cell? ⟨F.fb, 0, none⟩ = some (.map (some F.tb)) := by rw [cell_of_row _ _ _ _ _ _ H2.out.row]; rfl
               obtain ⟨w3, hup, h3, t3⟩ := H2.out.took K (by unfold maxLen; omega) (by unfold maxLen; omega)
               have H3 := hide (And.intro h3 (((FoTn.of_below k1 (Nat.le_refl _)).trans (FoTn.of_below kz (Nat.le_refl _))).trans t3))
               clear h3 t3 kz k1 H2 H1 H hrow)
  go_ret
  exact ⟨rfl, H3.out⟩
set_option maxRecDepth 100000 in
set_option maxHeartbeats 1000000 in
theorem take_no {base N : Nat} {F : Fo} {T : List Bs} {nx : Key → Option Int} (s : ByteArray) (w : World) (h : FoAt base N F T nx w) (hs : s.size ≤ 1000) (hin : fold s.data.toList ∈ T) :
    Calls Tryd.prog 32 #[.pointer (some ⟨F.fb, 0, none⟩), .string s] w fun e w' => e = .returned (.bool false) ∧ FoAt base N F T nx w' ∧ FoTn F w w' := by
  obtain ⟨K, hK⟩ : ∃ K : ByteArray, K = ⟨(fold s.data.toList).toArray⟩ := ⟨_, rfl⟩
  have hKd : K.data.toList = fold s.data.toList := by rw [hK]
  have hKs : K.size ≤ 1000 := by rw [hK, ba_size, fold_length]; simpa using hs
  have hc := fold_any s w (by omega)
  rw [← hK] at hc
  rw [← hKd] at hin
  clear hK hKd
  have H := hide h
  have hnk := hide (show tkn T K = some () by unfold tkn; rw [if_pos hin])
  clear h hin
  go_enter Tryd.func32, Tryd.ntmps32
  go_wp2_with (go_at_call 13; refine hc.mono ?_; rintro e w1 ⟨rfl, k1⟩
               have H1 := hide (H.out.below (Nat.le_refl _) k1)
               have hrow := hide H1.out.row
               have c0 : w1.cell? ⟨F.fb, 0, none⟩ = some (.map (some F.tb)) := by rw [cell_of_row _ _ _ _ _ _ hrow.out]; rfl
               have hl : ∀ b, (Instr.lookup 45 (.map (some F.tb)) (.string K) b).run Tryd.prog w1 = .ok (got b (.agg #[]) unE (tkn T K)) w1 := fun b => H1.out.tk.look strKeyed tknUnder (zeroUnit w1) b K (WideMaps.keyOf_string_mk (by kernel_rfl) (by unfold maxLen; omega))
               replace hl : (Instr.lookup 45 (.map (some F.tb)) (.string K) true).run Tryd.prog w1 = .ok (.tuple #[.agg #[], .bool true]) w1 := by rw [hl, hnk.out]; rfl
               have kz : Below w1.heap.size w1 (w1.alloc (.cells #[] 57)) := (Below.refl _ w1).alloc (Nat.le_refl _) _
               have H2 := hide (And.intro (H1.out.below (Nat.le_refl _) kz) ((FoTn.of_below (F := F) k1 (Nat.le_refl _)).trans (FoTn.of_below kz (Nat.le_refl _))))
               clear kz k1 H1 H hrow)
  go_ret
  exact ⟨rfl, H2.out⟩
end Go.Proofs.YtpihgffcfoelbaaDoor
