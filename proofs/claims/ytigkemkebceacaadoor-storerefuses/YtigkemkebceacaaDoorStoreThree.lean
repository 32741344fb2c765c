/- Several texts in one: StoreAdd, StoreFile, StoreAwake, StoreNone. -/
import Derived.Test.YtigkemkebceacaaDoorStoreTwo
import Derived.Test.YtigkemkebceacaaDoorMerkleTwo
import Derived.Test.YtigkemkebceacaaDoorChunkAll
import Derived.Test.YtigkemkebceacaaDoorStoreOne
/- A file added to a store. -/
namespace Go.St10
open Go.RowKit Go.MapFun Go.Chunk Go.Mk
/-- The bytes at some places. -/
def sumAt (ts : List ByteArray) : List Nat → Int
  | [] => 0
  | j :: l => sumAt ts l + (ts.getD j ByteArray.empty).size
theorem sumAt_snoc (ts : List ByteArray) (l : List Nat) (j : Nat) : sumAt ts (l ++ [j]) = sumAt ts l + (ts.getD j ByteArray.empty).size := by
  induction l with
  | nil => rfl
  | cons x l ih => simp only [List.cons_append, sumAt, ih]; omega
theorem getD_size {ts : List ByteArray} (h : ∀ x ∈ ts, x.size ≤ 512) (j : Nat) : (ts.getD j ByteArray.empty).size ≤ 512 := by
  unfold List.getD
  cases e : ts[j]? with
  | none => exact Nat.zero_le _
  | some x => exact h x (List.mem_of_getElem? e)
theorem sumAt_le {ts : List ByteArray} (h : ∀ x ∈ ts, x.size ≤ 512) (l : List Nat) : 0 ≤ sumAt ts l ∧ sumAt ts l ≤ 512 * l.length := by
  induction l with
  | nil => exact ⟨Int.le_refl _, by simp [sumAt]⟩
  | cons x l ih =>
    have := getD_size h x
    simp only [sumAt, List.length_cons]
    omega
theorem own_trn {P : Program} {S base K b B e k n : Nat} {q u : Int} {C : ByteArray → Option Pc} {F : ByteArray → Option Mn} {w w' : World} {v : Value} {xs : List Value} (h : StX P S base K b q u C F w) (ho : w.ownsRow B e k v n xs) (hne : e ≠ S) (t : Trn base b w w') : w'.ownsRow B e k v n xs := by
  obtain ⟨cm, fm, h, -⟩ := h
  obtain ⟨h0, h1 | ⟨g, cap, cur, h1, h2, h3, h4⟩⟩ := ho
  · exact ⟨h0, .inl h1⟩
  · refine ⟨h0, .inr ⟨g, cap, cur, h1, h2, t.kept g _ _ _ (fun e2 => ?_) h3, h4⟩⟩
    rw [e2, h.row] at h3
    cases h3
    exact hne rfl
/-- Behind the chunks at some places kept. -/
def keepAll (ds ts : List ByteArray) (C : ByteArray → Option Pc) : List Nat → (ByteArray → Option Pc)
  | [] => C
  | j :: l => keepAll ds ts (fun t => if t = ds.getD j ByteArray.empty then some ⟨ts.getD j ByteArray.empty, (pc C (ds.getD j ByteArray.empty)).u⟩ else C t) l
theorem own_at {w : World} {base e n c : Nat} {a : Option Addr} {xs : List Value} (h : w.ownsRow base e 1 (.slice a n c) n xs) (hn : 0 < n) : ∃ g, a = some ⟨g, 0, none⟩ ∧ n ≤ c ∧ ∀ j, j < n → w.cell? ⟨g, j, none⟩ = xs[j]? := by
  have h' := h
  obtain ⟨_, ⟨_, rfl⟩ | ⟨g, cap, cur, e1, _, _, h4, _⟩⟩ := h
  · exact absurd hn (Nat.lt_irrefl _)
  · cases e1
    exact ⟨g, rfl, h4, fun j hj => h'.cellAt j (by omega)⟩
end Go.St10
namespace Go.Proofs.YtigkemkebceacaaDoor
open Go.RowKit Go.Shelf Go.Wire Go.Mk Go.Chunk Go.MapFun Go.St10
attribute [local go_sem] Oper.semAt_some
theorem keepAll_snoc (ds ts : List ByteArray) : ∀ (l : List Nat) (C : ByteArray → Option Pc) (j : Nat), keepAll ds ts C (l ++ [j]) = laid (keepAll ds ts C l) (ds.getD j ByteArray.empty) ⟨ts.getD j ByteArray.empty, (pc (keepAll ds ts C l) (ds.getD j ByteArray.empty)).u⟩
  | [], _, _ => rfl
  | _ :: l, _, j => keepAll_snoc ds ts l _ j
theorem holdsX {base K b : Nat} {q u : Int} {C : ByteArray → Option Pc} {F : ByteArray → Option Mn} (m : Int) (w : World) (h : StX Tryd.prog 55 base K b q u C F w) (hq : 0 ≤ q ∧ q ≤ 9223372036854775807) (hu : 0 ≤ u ∧ u ≤ q) (hm : m ≤ q - u) :
    Calls Tryd.prog 28 #[.pointer (some ⟨b, 0, none⟩), .int .i64 m] w fun e w' => e = .returned (.bool true) ∧ Below w.heap.size w w' := by
  obtain ⟨cm, fm, h, -⟩ := h
  have := holds_any m w h hq hu
  rw [decide_eq_true hm] at this
  exact this
theorem keepAll_u (ds ts : List ByteArray) : ∀ (l : List Nat) (C : ByteArray → Option Pc) (s : ByteArray), (pc (keepAll ds ts C l) s).u = (pc C s).u
  | [], _, _ => rfl
  | j :: l, C, s => by
    show (pc (keepAll ds ts _ l) s).u = _
    rw [keepAll_u ds ts l]
    unfold pc
    by_cases e : s = ds.getD j ByteArray.empty
    · subst e; simp
    · show ((if s = _ then _ else _ : Option Pc).getD Pc.zero).u = _
      rw [if_neg e]
set_option maxRecDepth 100000 in
theorem know_there {base K b : Nat} {q u : Int} {C : ByteArray → Option Pc} {F : ByteArray → Option Mn} (file : ByteArray) (size : Int) (a : Option Addr) (n c : Nat) (w : World) (h : StX Tryd.prog 55 base K b q u C F w) (mn : Mn) (hF : F file = some mn) (hs : file.size ≤ maxLen) :
    Calls Tryd.prog 23 #[.pointer (some ⟨b, 0, none⟩), .string file, .agg #[.int .i64 size, .slice a n c]] w fun e w' => e = .returned (.bool false) ∧ Below w.heap.size w w' := by
  obtain ⟨cm, fm, h, -⟩ := h
  have k1 : Below w.heap.size w (w.alloc (.cells #[.int .i64 size, .slice a n c] 24)) := (Below.refl _ w).alloc (Nat.le_refl _) _
  have h1 := h.below k1
  have hl := h1.fi.look Tryd.underlying9 Tryd.underlying53 (zeroMn _) true file hs
  rw [hF] at hl
  obtain ⟨size', a', n', c'⟩ := mn
  replace hl : (Instr.lookup 53 (.map fm) (.string file) true).run Tryd.prog (w.alloc (.cells #[.int .i64 size, .slice a n c] 24)) = .ok (.tuple #[.agg #[.int .i64 size', .slice (a'.map fun b => ⟨b, 0, none⟩) n' c'], .bool true]) _ := hl
  obtain ⟨c0, c1, c2, c3⟩ := h1.cells
  clear hF h h1 k1
  go_enter Tryd.func23, Tryd.ntmps23
  go_wp2_with fail
  go_ret
  exact ⟨rfl, ((Below.refl _ w).alloc (Nat.le_refl _) _).alloc (by simp) _⟩
set_option maxRecDepth 100000 in
set_option maxHeartbeats 4000000 in
theorem add_any {base K b : Nat} {q u : Int} {C : ByteArray → Option Pc} {F : ByteArray → Option Mn} (s : ByteArray) (w : World) (h : StX Tryd.prog 55 base K b q u C F w) (hs : s.size ≤ 8192) (htf : (texts s).length ≤ 256) (hsz : ∀ x ∈ texts s, x.size ≤ 512) (hst : Steps w) (hb0 : 0 < base) :
    0 ≤ u → u ≤ q → q ≤ 4611686018427387903 → sumAt (texts s) (lackTo C ((texts s).map digest) (texts s).length) ≤ q - u → K + 1000 < maxLen → (∀ x, 0 ≤ (pc C x).u ∧ (pc C x).u + 1000 < 1000000) →
    Calls Tryd.prog 7 #[.pointer (some ⟨b, 0, none⟩), .string s] w fun e w' => e = .returned (.tuple #[.string (named s.size (texts s).length (root ((texts s).map digest))), .int .i64 0]) ∧ Trn base b w w' ∧ (F (named s.size (texts s).length (root ((texts s).map digest))) = none → ∃ mn : Mn, mn.size = s.size ∧ StrRow.Reads w' mn.sl ((texts s).map digest) ∧ StX Tryd.prog 55 base (K + (lackTo C ((texts s).map digest) (texts s).length).length + 1 + (texts s).length) b q (u + sumAt (texts s) (lackTo C ((texts s).map digest) (texts s).length)) (usedAll (keepAll ((texts s).map digest) (texts s) C (lackTo C ((texts s).map digest) (texts s).length)) ((texts s).map digest)) (known F (named s.size (texts s).length (root ((texts s).map digest))) mn) w') := by
  intro hu0 huq hq hmore hK hpu
  have HPU := hide hpu
  clear hpu
  have HO := hide (of_any s w hs hst)
  have hdl : ((texts s).map digest).length = (texts s).length := List.length_map _
  have HDL := hide hdl
  clear hdl
  obtain ⟨n, hn⟩ : ∃ n, n = (texts s).length := ⟨_, rfl⟩
  rw [← hn] at HO HDL htf ⊢
  obtain ⟨L, hL⟩ : ∃ L, L = lackTo C ((texts s).map digest) n := ⟨_, rfl⟩
  rw [← hn, ← hL] at hmore
  rw [← hL]
  have HH := hide (And.intro h (And.intro hst (And.intro hn hL)))
  have HQ := hide (And.intro hu0 (And.intro huq (And.intro hq (And.intro hmore hK))))
  clear h hst hL hn hu0 huq hq hmore hK
  go_enter Tryd.func7, Tryd.ntmps7
  go_upto_region 6 with (go_at_call 25; refine HO.out.mono ?_; rintro e w1 ⟨v, rfl, hown, hb1⟩; obtain ⟨va, vc, rfl⟩ := own_slice hown; have H1 := hide (And.intro hown hb1); clear hown hb1)
  obtain ⟨W, hW⟩ : ∃ W, W = w1.alloc (.cells #[.int .i64 s.size, .slice va n vc] 24) := ⟨_, rfl⟩
  rw [← hW]
  obtain ⟨X, hX⟩ : ∃ X, X = w1.heap.size := ⟨_, rfl⟩
  rw [← hX]
  have k0 : Below w1.heap.size w1 W := by rw [hW]; exact (Below.refl _ w1).alloc (Nat.le_refl _) _
  have kW : Below w.heap.size w W := H1.out.2.trans (k0.mono H1.out.2.size)
  have rX : W.heap[X]? = some (.cells #[.int .i64 s.size, .slice va n vc] 24 (0, 0)) := by rw [hW, hX]; exact heap_alloc_new _ _
  have hRd : StrRow.Reads w1 (.slice va n vc) ((texts s).map digest) := by
    refine StrRow.Reads.of_own (n := n) (base := w.heap.size) (e := 9) ?_
    rw [List.map_map]
    exact H1.out.1
  have H2 : Hid (StX Tryd.prog 55 base K b q u C F W ∧ StrRow.Reads W (.slice va n vc) ((texts s).map digest) ∧ W.heap[X]? = some (.cells #[.int .i64 s.size, .slice va n vc] 24 (0, 0)) ∧ Below w.heap.size w W ∧ Steps W) :=
    ⟨HH.out.1.below kW, hRd.below k0 (Nat.le_refl _), rX, kW, HH.out.2.1.kept kW⟩
  clear hW hX k0 kW rX hRd H1 HO
  have HCX : Hid (∀ U, Below W.heap.size W U → U.cell? ⟨X, 0, none⟩ = some (.int .i64 s.size) ∧ U.cell? ⟨X, 1, none⟩ = some (.slice va n vc)) := fun U h => by
    obtain ⟨d0, d1, -, -⟩ := two_cells ((h.block _ (Array.getElem?_eq_some_iff.1 H2.out.2.2.1).1).trans H2.out.2.2.1)
    exact ⟨d0, d1⟩
  have HLI : Hid (∀ U, Below W.heap.size W U → Calls Tryd.prog 26 #[.string s] U fun e w' => ∃ v', e = .returned v' ∧ w'.ownsRow U.heap.size 9 1 v' n ((texts s).map Value.string) ∧ Below U.heap.size U w') := fun U _ => by
    rw [HH.out.2.2.1]
    exact list_any s U (by omega)
  have HLA : Hid (∀ U, Below W.heap.size W U → Calls Tryd.prog 27 #[.pointer (some ⟨b, 0, none⟩), .slice va n vc] U fun e w' => ∃ v', e = .returned v' ∧ w'.ownsRow U.heap.size 3 1 v' L.length (nats L) ∧ Below U.heap.size U w') := fun U h => by
    have := lacking_any (.slice va n vc) ((texts s).map digest) U (H2.out.1.below h) (H2.out.2.1.below h (Nat.le_refl _)) (by rw [HDL.out]; omega) (fun x hx => by obtain ⟨y, _, rfl⟩ := List.mem_map.1 hx; rw [digest_size]; unfold maxLen; omega)
    rw [HDL.out, ← HH.out.2.2.2] at this
    exact this
  refine RegionOwn.regionK 8 75 9 1 (fun i => match i with
    | 0 => RegionOwn.val (.string s)
    | 1 => RegionOwn.fact (fun x v => x.ownsRow W.heap.size 9 1 v n ((texts s).map Value.string))
    | 2 => RegionOwn.val (.pointer (some ⟨b, 0, none⟩))
    | 3 => RegionOwn.val (.pointer (some ⟨X, 1, none⟩))
    | 4 => RegionOwn.val (.slice va n vc)
    | 5 => RegionOwn.fact (fun x v => x.ownsRow W.heap.size 3 1 v L.length (nats L))
    | 6 => RegionOwn.fact (fun x v => x.ownsRow W.heap.size 9 1 v n ((texts s).map Value.string))
    | 7 => RegionOwn.fact (fun x v => x.ownsRow W.heap.size 3 1 v L.length (nats L))
    | _ => RegionOwn.val undef) (fun _ => none) ?_ (by kernel_rfl) rfl (by kernel_rfl) ?_ ?_ ?_
  · intro i hi
    match i, hi with
    | 0, _ | 1, _ | 2, _ | 3, _ | 4, _ | 5, _ | 6, _ | 7, _ => rfl
    | i + 8, h => exact absurd h (by omega)
  · intro i p hi h
    refine ⟨fun _ _ => rfl, ?_⟩
    match i, hi, h with
    | 0, _, h | 2, _, h | 3, _, h | 4, _, h => cases h
    | 1, _, h => cases h; exact fun x y v h hb => own_below h hb
    | 5, _, h => cases h; exact fun x y v h hb => own_below h hb
    | 6, _, h => cases h; exact fun x y v h hb => own_below h hb
    | 7, _, h => cases h; exact fun x y v h hb => own_below h hb
    | i + 8, h, _ => exact absurd h (by omega)
  · intro i hi y x' hfr hbx hD hO K2 hK2
    match i, hi with
    | 0, _ =>
      have e1 : RegionOwn.T y 1 = .string s := RegionOwn.Fr.at hfr (by kernel_rfl) rfl
      refine RegionOwn.quietG rfl rfl hK2 rfl rfl ?_
      clear hK2 hD hfr hO
      unfold RegionOwn.T at e1
      go_simp
    | 1, _ =>
      have d0 : RegionOwn.T y 26 = .string s := hD 0 26 (by decide) rfl (by kernel_rfl) (.inl rfl)
      refine RegionOwn.calledG (f := 26) (args := #[.string s]) rfl rfl hK2 rfl ?_ ((HLI.out x' hbx).mono fun e y' h => let ⟨v', g1, g2, g3⟩ := h; ⟨v', g1, g3, own_from g2 hbx.size⟩)
      clear hK2 hD hfr hO
      unfold RegionOwn.T at d0
      go_simp
    | 2, _ =>
      have e0 : RegionOwn.T y 0 = .pointer (some ⟨b, 0, none⟩) := RegionOwn.Fr.at hfr (by kernel_rfl) rfl
      refine RegionOwn.quietG rfl rfl hK2 rfl rfl ?_
      clear hK2 hD hfr hO
      unfold RegionOwn.T at e0
      go_simp
    | 3, _ =>
      have e6 : RegionOwn.T y 6 = .pointer (some ⟨X, 0, none⟩) := RegionOwn.Fr.at hfr (by kernel_rfl) rfl
      refine RegionOwn.quietG rfl rfl hK2 rfl rfl ?_
      clear hK2 hD hfr hO
      unfold RegionOwn.T at e6
      go_simp
    | 4, _ =>
      have d3 : RegionOwn.T y 29 = .pointer (some ⟨X, 1, none⟩) := hD 3 29 (by decide) rfl (by kernel_rfl) (.inl rfl)
      obtain ⟨c0, c1⟩ := HCX.out x' hbx
      refine RegionOwn.quietG rfl rfl hK2 rfl rfl ?_
      clear hK2 hD hfr hO
      unfold RegionOwn.T at d3
      go_simp
    | 5, _ =>
      have d2 : RegionOwn.T y 28 = .pointer (some ⟨b, 0, none⟩) := hD 2 28 (by decide) rfl (by kernel_rfl) (.inl rfl)
      have d4 : RegionOwn.T y 30 = .slice va n vc := hD 4 30 (by decide) rfl (by kernel_rfl) (.inl rfl)
      refine RegionOwn.calledG (f := 27) (args := #[.pointer (some ⟨b, 0, none⟩), .slice va n vc]) rfl rfl hK2 rfl ?_ ((HLA.out x' hbx).mono fun e y' h => let ⟨v', g1, g2, g3⟩ := h; ⟨v', g1, g3, own_from g2 hbx.size⟩)
      clear hK2 hD hfr hO
      unfold RegionOwn.T at d2 d4
      go_simp
    | 6, _ =>
      have q1 := hD 1 27 (by decide) rfl (by kernel_rfl) (.inl rfl)
      refine RegionOwn.quietG rfl rfl hK2 rfl q1 ?_
      clear hK2 hD hfr hO
      go_simp
      simp [RegionOwn.T]
    | 7, _ =>
      have q5 := hD 5 31 (by decide) rfl (by kernel_rfl) (.inl rfl)
      refine RegionOwn.quietG rfl rfl hK2 rfl q5 ?_
      clear hK2 hD hfr hO
      go_simp
      simp [RegionOwn.T]
    | i + 8, h => exact absurd h (by omega)
  · intro y x' hfr hbx hD
    have d6 : x'.ownsRow W.heap.size 9 1 (RegionOwn.T y 8) n ((texts s).map Value.string) := hD 6 8 (by decide) rfl (fun _ _ h => by cases h)
    have d7 : x'.ownsRow W.heap.size 3 1 (RegionOwn.T y 9) L.length (nats L) := hD 7 9 (by decide) rfl (fun _ _ h => by cases h)
    have e0 : RegionOwn.T y 0 = .pointer (some ⟨b, 0, none⟩) := RegionOwn.Fr.at hfr (by kernel_rfl) rfl
    have e6 : RegionOwn.T y 6 = .pointer (some ⟨X, 0, none⟩) := RegionOwn.Fr.at hfr (by kernel_rfl) rfl
    obtain ⟨la, lc, hlv⟩ := own_slice d6
    obtain ⟨pa, pc', hpv⟩ := own_slice d7
    have hl75 : List.range 75 = [0, 1, 2, 3, 4, 5, 6, 7, 8, 9, 10, 11, 12, 13, 14, 15, 16, 17, 18, 19, 20, 21, 22, 23, 24, 25, 26, 27, 28, 29, 30, 31, 32, 33, 34, 35, 36, 37, 38, 39, 40, 41, 42, 43, 44, 45, 46, 47, 48, 49, 50, 51, 52, 53, 54, 55, 56, 57, 58, 59, 60, 61, 62, 63, 64, 65, 66, 67, 68, 69, 70, 71, 72, 73, 74] := by decide
    have hdf : y.defers = [] := hfr.defers
    rw [RegionOwn.act_lit y 75 (hfr.size.trans rfl), hl75, hdf]
    simp only [List.map_cons, List.map_nil, List.drop_succ_cons, List.drop_zero, hlv, hpv, e0, e6]
    rw [hlv] at d6
    rw [hpv] at d7
    have H3 := hide (And.intro d6 (And.intro d7 hbx))
    clear d6 d7 hbx hD hfr e0 e6 hlv hpv hl75 hdf HLI HLA HCX
    have hLn : L.length ≤ n := by rw [HH.out.2.2.2]; exact lackTo_le _ _ _
    have HLT : Hid (∀ j ∈ L, j < n) := fun j hj => by rw [HH.out.2.2.2] at hj; exact lackTo_lt hj
    have HSZ := hide hsz
    clear hsz
    have hLi : (L.length : Int) ≤ n := by omega
    have hni : (n : Int) ≤ 256 := by omega
    go_wp2_with fail
    go_loop [10, 34] (fun vm vi => ∃ i : Nat, i ≤ L.length ∧ vi = .int .i64 i ∧ vm = .int .i64 (sumAt (texts s) (L.take i))) (fun _ vi => 256 - (intOf vi).toNat)
    case atStart => exact ⟨0, Nat.zero_le _, rfl, rfl⟩
    case round =>
      obtain ⟨i, hi, rfl, rfl⟩ := hrel
      by_cases hlt : i < L.length
      · have hlt' : (i : Int) < L.length := by omega
        obtain ⟨j, hj⟩ : ∃ j, L[i]? = some j := ⟨_, List.getElem?_eq_getElem hlt⟩
        have hjn := HLT.out j (List.mem_of_getElem? hj)
        have hjn' : (j : Int) < n := by omega
        obtain ⟨g, rfl, hgc, hgv⟩ := own_at H3.out.2.1 (by omega)
        have hc1 := hgv i hlt
        have e1 : (nats L)[i]? = some (.int .i64 j) := by unfold nats; rw [List.getElem?_map, hj]; rfl
        rw [e1] at hc1
        obtain ⟨l, rfl, hlc, hlv⟩ := own_at H3.out.1 (by omega)
        obtain ⟨x, hx⟩ : ∃ x, (texts s)[j]? = some x := ⟨_, List.getElem?_eq_getElem (by rw [← HH.out.2.2.1]; exact hjn)⟩
        have hc2 := hlv j hjn
        have e2 : ((texts s).map Value.string)[j]? = some (.string x) := by rw [List.getElem?_map, hx]; rfl
        rw [e2] at hc2
        have HT : Hid (sumAt (texts s) (L.take (i + 1)) = sumAt (texts s) (L.take i) + x.size) := by
          show _ = _
          rw [List.take_add_one, hj]
          show sumAt _ (_ ++ [j]) = _
          rw [sumAt_snoc]
          simp [List.getD, hx]
        have hxz := HSZ.out x (List.mem_of_getElem? hx)
        have hsm := sumAt_le HSZ.out (L.take i)
        have htl : (L.take i).length ≤ 256 := by rw [List.length_take]; omega
        obtain ⟨M, hM⟩ : ∃ M, M = sumAt (texts s) (L.take i) := ⟨_, rfl⟩
        rw [← hM] at hsm HT ⊢
        have hwr : IntKind.i64.wrap (M + x.size) = M + x.size := Sha.wrap_i64 _ (by omega) (by omega)
        clear e1 e2 hgv hlv hj hx hM
        go_wp2_with fail
        go_round
        case rel => exact ⟨i + 1, by omega, by go_num, by rw [HT.out]⟩
        case measure => simp [intOf]; omega
      · have hlt' : ¬ ((i : Int) < L.length) := by omega
        have hin : i = L.length := by omega
        subst hin
        rw [List.take_of_length_le (Nat.le_refl _)]
        have hsm := sumAt_le HSZ.out L
        have HHo := hide (holdsX (sumAt (texts s) L) x' (H2.out.1.below H3.out.2.2) ⟨by have := HQ.out; omega, by have := HQ.out.2.2.1; omega⟩ ⟨HQ.out.1, HQ.out.2.1⟩ HQ.out.2.2.2.1)
        obtain ⟨M, hM⟩ : ∃ M, M = sumAt (texts s) L := ⟨_, rfl⟩
        rw [← hM] at HHo ⊢
        have HM := hide hM
        clear hM hsm
        go_upto_region 15 with (go_at_call 28; refine HHo.out.mono ?_; rintro e w4 ⟨rfl, hb4⟩; have H4 := hide hb4; clear hb4)
        have H5 : Hid (StX Tryd.prog 55 base K b q u C F w4 ∧ w4.ownsRow W.heap.size 9 1 (.slice la n lc) n ((texts s).map Value.string) ∧ w4.ownsRow W.heap.size 3 1 (.slice pa L.length pc') L.length (nats L) ∧ StrRow.Reads w4 (.slice va n vc) ((texts s).map digest) ∧ w4.heap[X]? = some (.cells #[.int .i64 s.size, .slice va n vc] 24 (0, 0)) ∧ Below w.heap.size w w4) := by
          have k4 : Below W.heap.size W w4 := H3.out.2.2.trans (H4.out.mono H3.out.2.2.size)
          exact ⟨H2.out.1.below k4, own_below H3.out.1 H4.out, own_below H3.out.2.1 H4.out, H2.out.2.1.below k4 (Nat.le_refl _), (k4.block _ (Array.getElem?_eq_some_iff.1 H2.out.2.2.1).1).trans H2.out.2.2.1, H2.out.2.2.2.1.trans (k4.mono H2.out.2.2.2.1.size)⟩
        clear H4 HHo
        go_wp2_with fail
        go_loopw [52] (fun vi wr => ∃ i : Nat, i ≤ L.length ∧ vi = .int .i64 i ∧ Hid (StX Tryd.prog 55 base (K + i) b q (u + sumAt (texts s) (L.take i)) (keepAll ((texts s).map digest) (texts s) C (L.take i)) F wr ∧ Trn base b w4 wr)) (fun vi _ => 256 - (intOf vi).toNat)
        case atStart => exact ⟨0, Nat.zero_le _, rfl, by simpa [sumAt, keepAll] using H5.out.1, Trn.refl _ _ _⟩
        case round =>
          obtain ⟨i, hi2, rfl, HR⟩ := hrel
          by_cases hlt2 : i < L.length
          · have hlt2' : (i : Int) < L.length := by omega
            obtain ⟨j, hj⟩ : ∃ j, L[i]? = some j := ⟨_, List.getElem?_eq_getElem hlt2⟩
            have hjn := HLT.out j (List.mem_of_getElem? hj)
            have hjn' : (j : Int) < n := by omega
            have o1 := own_trn H5.out.1 H5.out.2.1 (by decide) HR.out.2
            have o2 := own_trn H5.out.1 H5.out.2.2.1 (by decide) HR.out.2
            have o3 := reads_trn H5.out.1 H5.out.2.2.2.1 HR.out.2
            have hXb : X ≠ b := by
              rintro rfl
              obtain ⟨cm, fm, h, -⟩ := H5.out.1
              have := H5.out.2.2.2.2.1
              rw [h.row] at this
              cases this
            have o4 := HR.out.2.kept _ _ _ _ hXb H5.out.2.2.2.2.1
            obtain ⟨-, xc, -, -⟩ := two_cells o4
            obtain ⟨g, hge, hgc, hgv⟩ := own_at o2 (by omega)
            have hc1 := hgv i hlt2
            have e1 : (nats L)[i]? = some (.int .i64 j) := by unfold nats; rw [List.getElem?_map, hj]; rfl
            rw [e1] at hc1
            obtain ⟨l, hle, hlc, hlv⟩ := own_at o1 (by omega)
            obtain ⟨x, hx⟩ : ∃ x, (texts s)[j]? = some x := ⟨_, List.getElem?_eq_getElem (by rw [← HH.out.2.2.1]; exact hjn)⟩
            have hc2 := hlv j hjn
            have e2 : ((texts s).map Value.string)[j]? = some (.string x) := by rw [List.getElem?_map, hx]; rfl
            rw [e2] at hc2
            have hdx : ((texts s).map digest)[j]? = some (digest x) := by rw [List.getElem?_map, hx]; rfl
            obtain ⟨b3, off, cap, hv3, hcap3, hbl3⟩ := o3.at (by intro h; rw [h] at hdx; cases hdx)
            have hc3 := (hv3 ▸ o3).cell hdx
            rw [HDL.out] at hv3 hcap3
            simp only [Value.slice.injEq, true_and] at hv3
            obtain ⟨hva, hvc⟩ := hv3
            subst hva hvc hge hle
            have HT : Hid (sumAt (texts s) (L.take (i + 1)) = sumAt (texts s) (L.take i) + x.size ∧ keepAll ((texts s).map digest) (texts s) C (L.take (i + 1)) = laid (keepAll ((texts s).map digest) (texts s) C (L.take i)) (digest x) ⟨x, (pc (keepAll ((texts s).map digest) (texts s) C (L.take i)) (digest x)).u⟩) := by
              have g1 : (texts s).getD j ByteArray.empty = x := by simp [List.getD, hx]
              have g2 : ((texts s).map digest).getD j ByteArray.empty = digest x := by unfold List.getD; rw [hdx]; rfl
              have g3 : L.take (i + 1) = L.take i ++ [j] := by rw [List.take_add_one, hj]; rfl
              refine ⟨?_, ?_⟩
              · rw [g3, sumAt_snoc, g1]
              · rw [g3, keepAll_snoc, g1, g2]
            have hxz := HSZ.out x (List.mem_of_getElem? hx)
            have hs1 := sumAt_le HSZ.out (L.take i)
            have htl : (L.take i).length ≤ 256 := by rw [List.length_take]; omega
            have HKP : Hid (∀ U, Below wr.heap.size wr U → Calls Tryd.prog 29 #[.pointer (some ⟨b, 0, none⟩), .string (digest x), .string x] U fun e w' => e = .returned (.tuple #[]) ∧ StX Tryd.prog 55 base (K + i + 1) b q (u + sumAt (texts s) (L.take i) + x.size) (laid (keepAll ((texts s).map digest) (texts s) C (L.take i)) (digest x) ⟨x, (pc (keepAll ((texts s).map digest) (texts s) C (L.take i)) (digest x)).u⟩) F w' ∧ Trn base b U w') := fun U h => keep_any (digest x) x U (HR.out.1.below h) (by rw [digest_size]; unfold maxLen; omega) (by omega) (by have := HQ.out.2.2.2.2; omega) ⟨by have := HQ.out.1; omega, by have := HQ.out.2.1; have := HQ.out.2.2.1; omega⟩
            have r1 := cell_regrown hc2
            have r2 := cell_regrown hc3
            have r3 := cell_regrown xc
            have hbw : base ≤ wr.heap.size := by obtain ⟨_, _, _, h1, h2⟩ := HR.out.1.cells; omega
            clear e1 e2 hgv hlv hj hx hdx o1 o2 o3 o4 hs1
            generalize digest x = D at *
            go_upto_region 18 with fail
            refine QuietCalls.tail 10 (by kernel_rfl) (by kernel_rfl) ?_
            simp only [List.take_succ_cons, List.take_zero, List.drop_succ_cons, List.drop_zero]
            iterate 10 first | go_big_quiet_step (fail) | quiet_step (fail)
            refine wpQuiet_nil ?_
            intro w6 hb6
            have H6 := hide hb6
            clear hb6 r1 r2 r3
            go_wp2_with (go_at_call 29; refine (HKP.out _ H6.out).mono ?_; rintro e w7 ⟨rfl, hs7, ht7⟩; have H7 := hide (And.intro hs7 ht7); clear hs7 ht7)
            go_roundw
            case rel =>
              refine ⟨i + 1, by omega, by go_num, ?_, (HR.out.2.trans (.of_below H6.out hbw)).trans H7.out.2⟩
              rw [HT.out.1, HT.out.2, ← Int.add_assoc]
              exact H7.out.1
            case measure => simp [intOf]; omega
          · have hlt2' : ¬ ((i : Int) < L.length) := by omega
            have hin2 : i = L.length := by omega
            subst hin2
            rw [List.take_of_length_le (Nat.le_refl _)] at HR
            have o3 := reads_trn H5.out.1 H5.out.2.2.2.1 HR.out.2
            have hXb : X ≠ b := by
              rintro rfl
              obtain ⟨cm, fm, h, -⟩ := H5.out.1
              have := H5.out.2.2.2.2.1
              rw [h.row] at this
              cases this
            have o4 := HR.out.2.kept _ _ _ _ hXb H5.out.2.2.2.2.1
            obtain ⟨xa, xc, -, -⟩ := two_cells o4
            have hstr : Steps wr := (HH.out.2.1.kept H5.out.2.2.2.2.2).below HR.out.2.below hb0
            have HFI := hide (file_any s.size ((texts s).map digest) (.slice va n vc) wr (by omega) o3 (by rw [HDL.out]; omega) (fun y hy => by obtain ⟨z, _, rfl⟩ := List.mem_map.1 hy; exact digest_size z) hstr)
            rw [HDL.out] at HFI
            have HO3 := hide (And.intro o3 o4)
            clear o3 o4 hstr hXb
            go_upto_region 21 with (go_at_call 24; refine HFI.out.mono ?_; rintro e w8 ⟨rfl, hb8⟩; have x8 := (two_cells ((hb8.block _ (Array.getElem?_eq_some_iff.1 HO3.out.2).1).trans HO3.out.2)); have H8 := hide hb8; clear hb8)
            obtain ⟨FF, hFF⟩ : ∃ FF, FF = named s.size n (root ((texts s).map digest)) := ⟨_, rfl⟩
            rw [← hFF]
            have hFs : FF.size ≤ maxLen := by rw [hFF]; exact Nat.le_of_lt (show (tag _ _).size < _ by rw [tag_size]; decide)
            have HFS := hide (And.intro hFF hFs)
            clear hFF hFs
            have hbw : base ≤ wr.heap.size := by obtain ⟨_, _, _, h1, h2⟩ := HR.out.1.cells; omega
            have HKN : Hid (∀ U, Below w8.heap.size w8 U → Calls Tryd.prog 23 #[.pointer (some ⟨b, 0, none⟩), .string FF, .agg #[.int .i64 s.size, .slice va n vc]] U fun e w' => ∃ bb, e = .returned (.bool bb) ∧ Trn base b U w' ∧ (F FF = none → ∃ mn : Mn, mn.size = s.size ∧ StrRow.Reads w' mn.sl ((texts s).map digest) ∧ StX Tryd.prog 55 base (K + L.length + 1 + n) b q (u + sumAt (texts s) L) (usedAll (keepAll ((texts s).map digest) (texts s) C L) ((texts s).map digest)) (known F FF mn) w')) := fun U hU => by
              have kU : Below wr.heap.size wr U := H8.out.trans (hU.mono H8.out.size)
              have sU := HR.out.1.below kU
              have rU := HO3.out.1.below kU (Nat.le_refl _)
              cases hF : F FF with
              | none =>
                refine (know_any FF s.size (.slice va n vc) ((texts s).map digest) U sU rU (by rw [HDL.out]; omega) (fun y hy => by obtain ⟨z, _, rfl⟩ := List.mem_map.1 hy; rw [digest_size]; unfold maxLen; omega) hF HFS.out.2 (by rw [HDL.out]; have := HQ.out.2.2.2.2; omega) (fun y => by rw [keepAll_u, HDL.out]; have := HPU.out y; omega)).mono ?_
                rintro e w' ⟨rfl, mn, g1, g2, g3, g4⟩
                rw [HDL.out] at g3
                exact ⟨_, rfl, g4, fun _ => ⟨mn, g1, g2, g3⟩⟩
              | some mn =>
                refine (know_there FF s.size va n vc U sU mn hF HFS.out.2).mono ?_
                rintro e w' ⟨rfl, g4⟩
                exact ⟨_, rfl, Trn.of_below g4 (Nat.le_trans hbw kU.size), fun h => by cases h⟩
            obtain ⟨y0, y1, -, -⟩ := x8
            clear xa xc HFI
            go_wp2_with (go_at_call 23; refine (HKN.out _ (Below.refl _ _)).mono ?_; rintro e w10 ⟨bb, rfl, ht10, hk10⟩; have H10 := hide (And.intro ht10 hk10); clear ht10 hk10)
            go_ret2
            refine ⟨?_, ?_, ?_⟩
            · rw [← HFS.out.1]; rfl
            · exact (((Trn.of_below H5.out.2.2.2.2.2 (Nat.le_trans (by have := HH.out.1.cells; obtain ⟨_, _, _, h1, h2⟩ := this; omega) (Nat.le_refl _))).trans HR.out.2).trans (.of_below H8.out hbw)).trans H10.out.1
            · rw [← HFS.out.1]; exact H10.out.2
end Go.Proofs.YtigkemkebceacaaDoor
/- A file of one chunk got of a store; what is used. -/
namespace Go.Proofs.YtigkemkebceacaaDoor
open Go.RowKit Go.Shelf Go.Wire Go.Mk Go.Chunk Go.MapFun Go.St10
attribute [local go_sem] Oper.semAt_some
set_option maxRecDepth 100000 in
theorem joins_one (x : ByteArray) (v : Value) (w : World) (hr : StrRow.Reads w v [x]) :
    Calls Tryd.prog 47 #[v, .string ⟨#[]⟩] w fun e w' => e = .returned (.string x) ∧ w' = w := by
  obtain ⟨b', off, cap, hv, hcap, hbl⟩ := hr.at (by simp)
  subst hv
  have hc := hr.cell (j := 0) (s := x) rfl
  rw [Nat.add_zero] at hc
  simp only [List.length_cons, List.length_nil, Nat.zero_add] at hcap ⊢
  clear hr
  go_enter Tryd.func47, Tryd.ntmps47
  go_wp2_with fail
  go_ret
  exact ⟨rfl, rfl⟩
set_option maxRecDepth 100000 in
theorem joined_one (x : ByteArray) (v : Value) (w : World) (hr : StrRow.Reads w v [x]) (hx : x.size ≤ 8192) :
    Calls Tryd.prog 33 #[v] w fun e w' => e = .returned (.tuple #[.string x, .bool true]) ∧ w' = w := by
  have HJ := hide (joins_one x v w hr)
  obtain ⟨b', off, cap, hv, hcap, hbl⟩ := hr.at (by simp)
  subst hv
  have hc := hr.cell (j := 0) (s := x) rfl
  rw [Nat.add_zero] at hc
  simp only [List.length_cons, List.length_nil, Nat.zero_add] at hcap HJ ⊢
  clear hr
  have hx' : (x.size : Int) ≤ 8192 := by omega
  go_enter Tryd.func33, Tryd.ntmps33
  go_wp2_with fail
  go_loop [4, 9] (fun vm vi => ∃ i : Nat, i ≤ 1 ∧ vi = .int .i64 i ∧ (i = 0 → vm = .int .i64 8192)) (fun _ vi => 1 - (intOf vi).toNat)
  case atStart => exact ⟨0, by omega, rfl, fun _ => rfl⟩
  case round =>
    obtain ⟨i, hi, rfl, hm⟩ := hrel
    by_cases h0 : i = 0
    · subst h0
      rw [hm rfl]
      go_wp2_with fail
      go_round
      case rel => exact ⟨1, by omega, rfl, fun h => absurd h (by decide)⟩
      case measure => simp [intOf]
    · have h1 : i = 1 := by omega
      subst h1
      go_wp2_with (go_at_call 47; refine HJ.out.mono ?_; rintro e w1 ⟨rfl, hw1⟩; subst hw1)
      go_ret2
      exact ⟨rfl, rfl⟩
theorem used_any {base K b : Nat} {q u : Int} {C : ByteArray → Option Pc} {F : ByteArray → Option Mn} (w : World) (h : StX Tryd.prog 55 base K b q u C F w) :
    Calls Tryd.prog 19 #[.pointer (some ⟨b, 0, none⟩)] w fun e w' => e = .returned (.int .i64 u) ∧ Below w.heap.size w w' := by
  obtain ⟨cm, fm, h, -⟩ := h
  obtain ⟨c0, c1, c2, c3⟩ := h.cells
  clear h
  go_enter Tryd.func19, Tryd.ntmps19
  go_wp2_with fail
  go_ret
  exact ⟨rfl, Below.refl _ _⟩
set_option maxRecDepth 100000 in
set_option maxHeartbeats 2000000 in
theorem file_one {base K b : Nat} {q u : Int} {C : ByteArray → Option Pc} {F : ByteArray → Option Mn} (file d x : ByteArray) (mn : Mn) (w : World) (h : StX Tryd.prog 55 base K b q u C F w) (hF : F file = some mn) (hs : file.size ≤ maxLen) (hr : StrRow.Reads w mn.sl [d]) (hd : d.size ≤ maxLen)
    (hp : (pc C d).b = x) (hx0 : (x.toList == []) = false) (hx : x.size ≤ 8192) (hz : mn.size = x.size) :
    Calls Tryd.prog 14 #[.pointer (some ⟨b, 0, none⟩), .string file] w fun e w' => e = .returned (.tuple #[.string x, .bool true]) ∧ Below w.heap.size w w' := by
  obtain ⟨i9, hi9, hz9, hs9, hb9⟩ := info_parts ciInfo9
  have hH := hasX d w h hd
  rw [hp, hx0] at hH
  obtain ⟨cm, fm, h, -⟩ := h
  have hl := h.fi.look Tryd.underlying9 Tryd.underlying53 (zeroMn _) true file hs
  rw [hF] at hl
  obtain ⟨b', off, cap, hv, hcap, hbl⟩ := hr.at (by simp)
  simp only [List.length_cons, List.length_nil, Nat.zero_add] at hcap hv
  replace hl : (Instr.lookup 53 (.map fm) (.string file) true).run Tryd.prog w = .ok (.tuple #[.agg #[.int .i64 mn.size, mn.sl], .bool true]) _ := hl
  rw [hv, hz] at hl
  rw [hv] at hr
  obtain ⟨c0, c1, c2, c3⟩ := h.cells
  obtain ⟨W, hW⟩ : ∃ W, W = w.alloc (.cells #[.int .i64 x.size, .slice (some ⟨b', off, none⟩) 1 cap] 24) := ⟨_, rfl⟩
  have kW : Below w.heap.size w W := by rw [hW]; exact (Below.refl _ w).alloc (Nat.le_refl _) _
  have rW : W.heap[w.heap.size]? = some (.cells #[.int .i64 x.size, .slice (some ⟨b', off, none⟩) 1 cap] 24 (0, 0)) := by rw [hW]; exact heap_alloc_new _ _
  have hc := (hr.below kW (Nat.le_refl _)).cell (j := 0) (s := d) rfl
  rw [Nat.add_zero] at hc
  have hx' : (x.size : Int) ≤ 8192 := by omega
  have H0 := hide (And.intro h (And.intro kW (And.intro rW (And.intro hp (And.intro hx0 hd)))))
  clear h kW rW hp hF hr hv hz hx0 hd hH
  go_enter Tryd.func14, Tryd.ntmps14
  go_upto_region 7 with fail
  rw [← hW]
  clear hW c0 c1 c2 c3 hl
  obtain ⟨X, hX⟩ : ∃ X, X = w.heap.size := ⟨_, rfl⟩
  rw [← hX] at H0 ⊢
  have hS := H0.out.1.below (hX ▸ H0.out.2.1)
  obtain ⟨c0, c1, c2, c3⟩ := hS.cells
  have hlk := hS.ch.look Tryd.underlying9 Tryd.underlying52 (zeroPc W) false d H0.out.2.2.2.2.2
  rw [got_pc, H0.out.2.2.2.1] at hlk
  obtain ⟨x0, x1, -, -⟩ := two_cells H0.out.2.2.1
  have HHas : Hid (Calls Tryd.prog 31 #[.pointer (some ⟨b, 0, none⟩), .string d] W fun e w' => e = .returned (.bool true) ∧ w' = W) := by
    have := has_any d W hS H0.out.2.2.2.2.2
    rw [H0.out.2.2.2.1, H0.out.2.2.2.2.1] at this
    exact this
  have hfp := fieldPc x (pc C d).u W
  generalize (pc C d).u = uu at hlk hfp
  have HXX := hide hX
  clear hS hX
  go_wp2_with fail
  go_loopw [8, 29] (fun vl vi wr => ∃ i : Nat, i ≤ 1 ∧ vi = .int .i64 i ∧ (i = 0 → vl = .slice none 0 0 ∧ wr = W) ∧ (i = 1 → Hid (StrRow.Reads wr vl [x] ∧ Below W.heap.size W wr))) (fun _ vi _ => 1 - (intOf vi).toNat)
  case atStart => exact ⟨0, by omega, rfl, fun _ => ⟨rfl, rfl⟩, fun h => absurd h (by decide)⟩
  case round =>
    obtain ⟨i, hi, rfl, h0, h1⟩ := hrel
    by_cases e0 : i = 0
    · subst e0
      obtain ⟨rfl, rfl⟩ := h0 rfl
      clear h0 h1
      go_wp2_with (first
        | (go_at_call 31; refine HHas.out.mono ?_; rintro e w3 ⟨rfl, hw3⟩; subst hw3)
        | (at_builtin; refine wpList_append_own _ rfl _ _ 22 rfl w3.heap.size 9 i9 (.string ⟨#[]⟩) 1 16 ciUnder24 hi9 hz9 hs9 hb9 rfl (by decide) _ _ _ rfl ((World.ownsRow_nil _ _ _ _).alloc _) ⟨w3.heap.size, 0, none⟩ 1 1 [.string x] rfl rfl (cell_one_new _ _ _) ?a2 ?a3 ?a4 ?a5 ?_))
      case a2 => intro u hu; simp at hu; subst hu; rfl
      case a3 => unfold maxLen; omega
      case a4 => omega
      case a5 => simp
      intro v' w4 hown hgrow _
      have H4 : Hid (StrRow.Reads w4 v' [x] ∧ Below w3.heap.size w3 w4) := by
        have hb1 := (Below.refl w3.heap.size w3).alloc (Nat.le_refl _) (.cells #[.string x] 9)
        exact ⟨StrRow.Reads.of_own (n := 1) (base := w3.heap.size) (e := 9) hown, hb1.grown hgrow hb1.size fun k e => by cases e⟩
      obtain ⟨va, vc, rfl⟩ := own_slice hown
      clear hown hgrow
      go_wp2_with fail
      go_roundw
      case rel => exact ⟨1, by omega, rfl, fun h => absurd h (by decide), fun _ => H4⟩
      case measure => simp [intOf]
    · have e1 : i = 1 := by omega
      subst e1
      have HH := h1 rfl
      clear h0 h1
      have hJ := hide (joined_one x _ wr HH.out.1 hx)
      obtain ⟨b2, off2, cap2, hv2, -, -⟩ := HH.out.1.at (by simp)
      subst hv2
      have y0 := (HH.out.2.cell (p := ⟨X, 0, none⟩) (Array.getElem?_eq_some_iff.1 H0.out.2.2.1).1).trans x0
      have HB : Hid (Below w.heap.size w wr) := (HXX.out ▸ H0.out.2.1).trans (HH.out.2.mono (HXX.out ▸ H0.out.2.1).size)
      clear HH c0 c1 c2 c3 x0 x1 hlk hfp HHas hc
      go_wp2_with (go_at_call 33; refine hJ.out.mono ?_; rintro e w5 ⟨rfl, hw5⟩; subst hw5)
      go_ret2
      exact ⟨rfl, HB.out⟩
end Go.Proofs.YtigkemkebceacaaDoor
/- The wake-up call: a file is kept, and got. -/
namespace Go.St10
open Go.RowKit Go.MapFun Go.Chunk Go.Mk
def wakeB : ByteArray := ⟨#[116, 101, 120, 116]⟩
theorem lackTo_one (d : ByteArray) : lackTo (fun _ => none) [d] 1 = [0] := by
  simp [lackTo, cnt, pc, Pc.zero, List.range_succ]
theorem sumAt_one (x : ByteArray) : sumAt [x] [0] = x.size := by simp [sumAt]
theorem woken (d x : ByteArray) : (pc (usedAll (keepAll [d] [x] (fun _ => none) [0]) [d]) d).b = x := by
  simp [usedAll, keepAll, pc]
theorem wake_some : (wakeB.toList == []) = false := by
  rw [ByteArray.toList, ByteArray.toList.loop, if_pos (by decide), ByteArray.toList.loop, if_pos (by decide), ByteArray.toList.loop, if_pos (by decide), ByteArray.toList.loop, if_pos (by decide), ByteArray.toList.loop, if_neg (by decide)]
  rfl
end Go.St10
namespace Go.Proofs.YtigkemkebceacaaDoor
open Go.RowKit Go.Shelf Go.Wire Go.Mk Go.Chunk Go.MapFun Go.St10
attribute [local go_sem] Oper.semAt_some
theorem wakeAdd {base b : Nat} {w : World} (h : StX Tryd.prog 55 base 0 b 100 0 (fun _ => none) (fun _ => none) w) (hst : Steps w) (hb0 : 0 < base) :
    ∃ FF : ByteArray, FF.size ≤ maxLen ∧ Calls Tryd.prog 7 #[.pointer (some ⟨b, 0, none⟩), .string wakeB] w fun e w' => e = .returned (.tuple #[.string FF, .int .i64 0]) ∧ Trn base b w w' ∧ ∃ mn : Mn, mn.size = wakeB.size ∧ StrRow.Reads w' mn.sl [digest wakeB] ∧ StX Tryd.prog 55 base 3 b 100 4 (usedAll (keepAll [digest wakeB] [wakeB] (fun _ => none) [0]) [digest wakeB]) (known (fun _ => none) FF mn) w' := by
  have ht : texts wakeB = [wakeB] := texts_short wakeB (by decide) (by decide)
  have := add_any wakeB w h (by decide) (by rw [ht]; decide) (texts_size _) hst hb0 (by decide) (by decide) (by decide) (by rw [ht]; show sumAt _ (lackTo _ [digest wakeB] 1) ≤ _; rw [lackTo_one, sumAt_one]; decide) (by decide) (fun x => by simp [pc, Pc.zero])
  rw [ht] at this
  simp only [List.map_cons, List.map_nil, List.length_cons, List.length_nil, Nat.zero_add] at this
  rw [lackTo_one, sumAt_one] at this
  refine ⟨named wakeB.size 1 (root [digest wakeB]), ?_, this.mono ?_⟩
  · exact Nat.le_of_lt (show (tag _ _).size < _ by rw [tag_size]; decide)
  · rintro e w' ⟨rfl, h1, h2⟩
    exact ⟨rfl, h1, h2 trivial⟩
theorem wakeFile {base b : Nat} {w : World} {FF : ByteArray} {mn : Mn} (hFF : FF.size ≤ maxLen) (h1 : mn.size = wakeB.size) (h2 : StrRow.Reads w mn.sl [digest wakeB]) (h : StX Tryd.prog 55 base 3 b 100 4 (usedAll (keepAll [digest wakeB] [wakeB] (fun _ => none) [0]) [digest wakeB]) (known (fun _ => none) FF mn) w) :
    Calls Tryd.prog 14 #[.pointer (some ⟨b, 0, none⟩), .string FF] w fun e w' => e = .returned (.tuple #[.string wakeB, .bool true]) ∧ Below w.heap.size w w' :=
  file_one FF (digest wakeB) wakeB mn w h (by simp [known]) hFF h2 (by rw [digest_size]; decide) (woken _ _) wake_some (by decide) h1
set_option maxRecDepth 100000 in
set_option maxHeartbeats 1000000 in
theorem awake10_any (w : World) (hst : Steps w) :
    Calls Tryd.prog 9 #[] w fun e w' => e = .returned (.bool true) ∧ Below w.heap.size w w' := by
  have hpos : 0 < w.heap.size := Nat.lt_of_le_of_lt (Nat.zero_le _) hst.pos
  have HN := hide (newStore_any 100 w (by decide))
  have HS := hide hst
  clear hst
  go_enter Tryd.func9, Tryd.ntmps9
  go_upto_region 2 with (go_at_call 5; refine HN.out.mono ?_; rintro e w1 ⟨rfl, hs1, hb1⟩; have H1 := hide (And.intro hs1 hb1); clear hs1 hb1)
  have hX1 : StX Tryd.prog 55 w.heap.size 0 w.heap.size 100 0 (fun _ => none) (fun _ => none) w1 := by
    refine ⟨none, none, H1.out.1, Nat.le_refl _, ⟨?_, ?_⟩⟩ <;> (intro x h; cases h)
  obtain ⟨FF, hFF, hA⟩ := wakeAdd hX1 (HS.out.kept H1.out.2) hpos
  have HA := hide hA
  have HFF := hide hFF
  obtain ⟨b, hb⟩ : ∃ b, b = w.heap.size := ⟨_, rfl⟩
  rw [← hb] at HA H1 ⊢
  have HB := hide hb
  clear hA hX1 hpos hFF hb
  unfold wakeB at HA
  go_upto_region 3 with (go_at_call 7; refine HA.out.mono ?_; rintro e w2 ⟨rfl, ht2, mn, hm1, hm2, hs2⟩; have H2 := hide (And.intro ht2 (And.intro hm1 (And.intro hm2 hs2))); clear ht2 hm1 hm2 hs2)
  have HFi := hide (wakeFile HFF.out H2.out.2.1 H2.out.2.2.1 H2.out.2.2.2)
  unfold wakeB at HFi
  go_upto_region 4 with (go_at_call 14; refine HFi.out.mono ?_; rintro e w3 ⟨rfl, hb3⟩; have H3 := hide hb3; clear hb3)
  have HU := hide (used_any w3 (H2.out.2.2.2.below H3.out))
  go_wp2_with (go_at_call 19; refine HU.out.mono ?_; rintro e w4 ⟨rfl, hb4⟩; have H4 := hide hb4; clear hb4)
  go_ret
  refine ⟨rfl, ?_⟩
  have t2 := H2.out.1.below
  have t1 := H1.out.2
  have z1 := t1.size
  have z0 := HB.out
  have z2 := t2.size
  have z3 := H3.out.size
  rw [← z0]
  exact ((t1.trans t2).trans (H3.out.mono (by omega))).trans (H4.out.mono (by omega))
end Go.Proofs.YtigkemkebceacaaDoor
/- What a nil store answers. -/
namespace Go.Proofs.YtigkemkebceacaaDoor
open Go.RowKit Go.Shelf Go.Wire Go.Mk Go.Chunk Go.MapFun Go.St10
attribute [local go_sem] Oper.semAt_some
set_option maxRecDepth 100000 in
theorem putSt_nil (s : ByteArray) (w : World) : Calls Tryd.prog 11 #[.pointer none, .string s] w fun e w' => e = .returned (.tuple #[.string ⟨#[]⟩, .bool false, .int .i64 1]) ∧ Below w.heap.size w w' := by
  go_enter Tryd.func11, Tryd.ntmps11
  go_wp2
  go_ret3
  exact ⟨rfl, Below.refl _ _⟩
set_option maxRecDepth 100000 in
theorem getSt_nil (s : ByteArray) (w : World) : Calls Tryd.prog 12 #[.pointer none, .string s] w fun e w' => e = .returned (.tuple #[.string ⟨#[]⟩, .bool false]) ∧ Below w.heap.size w w' := by
  go_enter Tryd.func12, Tryd.ntmps12
  go_wp2
  go_ret2
  exact ⟨rfl, Below.refl _ _⟩
set_option maxRecDepth 100000 in
theorem fileSt_nil (s : ByteArray) (w : World) : Calls Tryd.prog 14 #[.pointer none, .string s] w fun e w' => e = .returned (.tuple #[.string ⟨#[]⟩, .bool false]) ∧ Below w.heap.size w w' := by
  go_enter Tryd.func14, Tryd.ntmps14
  go_wp2
  go_ret2
  exact ⟨rfl, Below.refl _ _⟩
set_option maxRecDepth 100000 in
theorem addSt_nil (s : ByteArray) (w : World) : Calls Tryd.prog 7 #[.pointer none, .string s] w fun e w' => e = .returned (.tuple #[.string ⟨#[]⟩, .int .i64 1]) ∧ Below w.heap.size w w' := by
  go_enter Tryd.func7, Tryd.ntmps7
  go_wp2
  go_ret2
  exact ⟨rfl, Below.refl _ _⟩
set_option maxRecDepth 100000 in
theorem forgetSt_nil (s : ByteArray) (w : World) : Calls Tryd.prog 16 #[.pointer none, .string s] w fun e w' => e = .returned (.bool false) ∧ Below w.heap.size w w' := by
  go_enter Tryd.func16, Tryd.ntmps16
  go_wp2
  go_ret
  exact ⟨rfl, Below.refl _ _⟩
set_option maxRecDepth 100000 in
theorem collectSt_nil (w : World) : Calls Tryd.prog 17 #[.pointer none] w fun e w' => e = .returned (.int .i64 0) ∧ Below w.heap.size w w' := by
  go_enter Tryd.func17, Tryd.ntmps17
  go_wp2
  go_ret
  exact ⟨rfl, (Below.refl _ w).alloc (Nat.le_refl _) _⟩
set_option maxRecDepth 100000 in
theorem lacksSt_nil (s : ByteArray) (w : World) : Calls Tryd.prog 18 #[.pointer none, .string s] w fun e w' => e = .returned (.slice none 0 0) ∧ Below w.heap.size w w' := by
  go_enter Tryd.func18, Tryd.ntmps18
  go_wp2
  go_ret
  exact ⟨rfl, Below.refl _ _⟩
set_option maxRecDepth 100000 in
theorem usedSt_nil (w : World) : Calls Tryd.prog 19 #[.pointer none] w fun e w' => e = .returned (.int .i64 0) ∧ Below w.heap.size w w' := by
  go_enter Tryd.func19, Tryd.ntmps19
  go_wp2
  go_ret
  exact ⟨rfl, Below.refl _ _⟩
set_option maxRecDepth 100000 in
theorem usesSt_nil (s : ByteArray) (w : World) : Calls Tryd.prog 20 #[.pointer none, .string s] w fun e w' => e = .returned (.int .i64 0) ∧ Below w.heap.size w w' := by
  go_enter Tryd.func20, Tryd.ntmps20
  go_wp2
  go_ret
  exact ⟨rfl, Below.refl _ _⟩
set_option maxRecDepth 100000 in
theorem chunksSt_nil (w : World) : Calls Tryd.prog 21 #[.pointer none] w fun e w' => e = .returned (.slice none 0 0) ∧ Below w.heap.size w w' := by
  go_enter Tryd.func21, Tryd.ntmps21
  go_wp2
  go_ret
  exact ⟨rfl, (Below.refl _ w).alloc (Nat.le_refl _) _⟩
set_option maxRecDepth 100000 in
theorem knowSt_nil (size : Int) (v : Value) (hv : ∃ a n c, v = .slice a n c) (w : World) : Calls Tryd.prog 6 #[.pointer none, .agg #[.int .i64 size, v]] w fun e w' => e = .returned (.tuple #[.bool false, .int .i64 1]) ∧ Below w.heap.size w w' := by
  obtain ⟨a, n, c, rfl⟩ := hv
  go_enter Tryd.func6, Tryd.ntmps6
  go_wp2
  go_ret2
  exact ⟨rfl, (Below.refl _ w).alloc (Nat.le_refl _) _⟩
set_option maxRecDepth 100000 in
theorem manifestSt_nil (s : ByteArray) (w : World) : Calls Tryd.prog 13 #[.pointer none, .string s] w fun e w' => e = .returned (.tuple #[.agg #[.int .i64 0, .slice none 0 0], .bool false]) ∧ Below w.heap.size w w' := by
  have hb := (Below.refl _ w).alloc (Nat.le_refl _) (.cells #[.int .i64 0, .slice none 0 0] 24)
  have hr : (w.alloc (.cells #[.int .i64 0, .slice none 0 0] 24)).heap[w.heap.size]? = some (.cells #[.int .i64 0, .slice none 0 0] 24 (0, 0)) := heap_alloc_new _ _
  have HB := hide (And.intro hb hr)
  clear hb hr
  go_enter Tryd.func13, Tryd.ntmps13
  go_wp2
  exact bodyPost_ret (results_cell2_row Tryd.results13 _ _ w.heap.size _ _ (0, 0) _ rfl HB.out.2 Tryd.underlying24 rfl infoMan) rfl ⟨rfl, HB.out.1⟩
end Go.Proofs.YtigkemkebceacaaDoor
