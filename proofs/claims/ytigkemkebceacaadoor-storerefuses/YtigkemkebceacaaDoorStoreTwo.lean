/- Several texts in one: StoreKnow, StoreLack. -/
import Derived.Test.YtigkemkebceacaaDoorStoreOne
import Derived.Test.YtigkemkebceacaaDoorRegionAll
/- A store's manifest: kept under its digest, its chunks used. -/
namespace Go.St10
open Go.RowKit Go.MapFun
/-- Behind each of some chunks used once. -/
def usedAll (C : ByteArray → Option Pc) : List ByteArray → (ByteArray → Option Pc)
  | [] => C
  | d :: ds => usedAll (fun t => if t = d then some ⟨(pc C d).b, (pc C d).u + 1⟩ else C t) ds
/-- Behind a manifest that was laid in its place. -/
def known (F : ByteArray → Option Mn) (s : ByteArray) (m : Mn) : ByteArray → Option Mn := fun t => if t = s then some m else F t
theorem mn_of {w : World} {base e : Nat} {v : Value} {n : Nat} {xs : List Value} (size : Int) (h : w.ownsRow base e 1 v n xs) : ∃ mn : Mn, mn.size = size ∧ mn.sl = v := by
  obtain ⟨_, ⟨rfl, rfl⟩ | ⟨g, cap, cur, rfl, _⟩⟩ := h
  · exact ⟨⟨size, none, 0, 0⟩, rfl, rfl⟩
  · exact ⟨⟨size, some g, n, cap⟩, rfl, rfl⟩
theorem reads_trn {P : Program} {S base K b : Nat} {q u : Int} {C : ByteArray → Option Pc} {F : ByteArray → Option Mn} {w w' : World} {v : Value} {xs : List ByteArray} (h : StX P S base K b q u C F w) (hr : StrRow.Reads w v xs) (t : Trn base b w w') : StrRow.Reads w' v xs := by
  obtain ⟨cm, fm, h, -⟩ := h
  rcases hr with hr | ⟨b', off, cap, h1, h2, h3, h4⟩
  · exact .inl hr
  · by_cases hx : xs = []
    · subst hx
      exact .inl ⟨⟨_, _, h1⟩, rfl⟩
    · have hne : b' ≠ b := by
        rintro rfl
        obtain ⟨x, l, rfl⟩ := List.exists_cons_of_ne_nil hx
        have := h4 0 x rfl
        rw [cell_of_row _ _ _ _ _ _ h.row] at this
        rcases Nat.lt_or_ge (off + 0) 4 with hl | hl
        · rcases (show off + 0 = 0 ∨ off + 0 = 1 ∨ off + 0 = 2 ∨ off + 0 = 3 by omega) with e | e | e | e <;> (rw [e] at this; cases this)
        · rw [Array.getElem?_eq_none (by simpa using hl)] at this
          cases this
      have hc : ∃ cs T k, w.heap[b']? = some (.cells cs T k) := by
        obtain ⟨x, l, rfl⟩ := List.exists_cons_of_ne_nil hx
        have := h4 0 x rfl
        unfold World.cell? at this
        dsimp only at this
        split at this
        · rename_i e; exact ⟨_, _, _, e⟩
        · cases this
      obtain ⟨cs, T, k, hc⟩ := hc
      have hk := t.kept b' cs T k hne hc
      exact .inr ⟨b', off, cap, h1, (Array.getElem?_eq_some_iff.1 hk).1, h3, fun j s hj => by
        rw [World.cell?_of_block (w := w) (hk.trans hc.symm)]
        exact h4 j s hj⟩
end Go.St10
namespace Go.Proofs.YtigkemkebceacaaDoor
open Go.RowKit Go.Shelf Go.Wire Go.Mk Go.Chunk Go.MapFun Go.St10
attribute [local go_sem] Oper.semAt_some
theorem usedAll_snoc : ∀ (l : List ByteArray) (C : ByteArray → Option Pc) (d : ByteArray), usedAll C (l ++ [d]) = laid (usedAll C l) d ⟨(pc (usedAll C l) d).b, (pc (usedAll C l) d).u + 1⟩
  | [], _, _ => rfl
  | _ :: l, _, d => usedAll_snoc l _ d
theorem usedAll_u : ∀ (l : List ByteArray) (C : ByteArray → Option Pc) (s : ByteArray), (pc C s).u ≤ (pc (usedAll C l) s).u ∧ (pc (usedAll C l) s).u ≤ (pc C s).u + l.length
  | [], _, _ => ⟨Int.le_refl _, by simp [usedAll]⟩
  | d :: l, C, s => by
    have h := usedAll_u l (fun t => if t = d then some ⟨(pc C d).b, (pc C d).u + 1⟩ else C t) s
    have e : (pc (fun t => if t = d then some ⟨(pc C d).b, (pc C d).u + 1⟩ else C t) s).u = if s = d then (pc C s).u + 1 else (pc C s).u := by
      unfold pc
      by_cases e : s = d
      · subst e; simp
      · simp [e]
    rw [e] at h
    show _ ≤ (pc (usedAll _ l) s).u ∧ (pc (usedAll _ l) s).u ≤ _
    simp only [List.length_cons]
    split at h <;> omega
theorem fmSome (b : Nat) (w : World) : (binOp .eql 53 (.map (some b)) (.map none)).run Tryd.prog w = .ok (.bool false) w := by kernel_rfl
theorem fmNone (w : World) : (binOp .eql 53 (.map none) (.map none)).run Tryd.prog w = .ok (.bool true) w := by kernel_rfl
set_option maxRecDepth 100000 in
set_option maxHeartbeats 4000000 in
theorem know_some {base K b m : Nat} {q u : Int} {cm : Option Nat} {C : ByteArray → Option Pc} {F : ByteArray → Option Mn} (file : ByteArray) (size : Int) (v : Value) (xs : List ByteArray) (w : World) (h : StAt Tryd.prog 55 K b q u cm (some m) C F w) (hb : base ≤ b) (hc : ∀ x, cm = some x → base ≤ x) (hm : base ≤ m)
    (hr : StrRow.Reads w v xs) (hn : xs.length ≤ 1000) (hx : ∀ s ∈ xs, s.size ≤ maxLen) (hF : F file = none) (hs : file.size ≤ maxLen) (hK : K + 1 + xs.length < maxLen) (hu : ∀ s, 0 ≤ (pc C s).u ∧ (pc C s).u + xs.length < 1000000) :
    Calls Tryd.prog 23 #[.pointer (some ⟨b, 0, none⟩), .string file, .agg #[.int .i64 size, v]] w fun e w' => e = .returned (.bool true) ∧ ∃ mn : Mn, mn.size = size ∧ StrRow.Reads w' mn.sl xs ∧ StX Tryd.prog 55 base (K + 1 + xs.length) b q u (usedAll C xs) (known F file mn) w' ∧ Trn base b w w' := by
  obtain ⟨a, c, rfl⟩ := hr.form
  have hw : base ≤ w.heap.size := Nat.le_of_lt (Nat.lt_of_le_of_lt hb (Array.getElem?_eq_some_iff.1 h.row).1)
  have k1 : Below w.heap.size w (w.alloc (.cells #[.int .i64 size, .slice a xs.length c] 24)) := (Below.refl _ w).alloc (Nat.le_refl _) _
  have h1 := h.below k1
  have hl := h1.fi.look Tryd.underlying9 Tryd.underlying53 (zeroMn _) true file hs
  rw [hF] at hl
  replace hl : (Instr.lookup 53 (.map (some m)) (.string file) true).run Tryd.prog (w.alloc (.cells #[.int .i64 size, .slice a xs.length c] 24)) = .ok (.tuple #[.agg #[.int .i64 0, .slice none 0 0], .bool false]) _ := hl
  obtain ⟨c0, c1, c2, c3⟩ := h1.cells
  have hr0 : (w.alloc (.cells #[.int .i64 size, .slice a xs.length c] 24)).heap[w.heap.size]? = some (.cells #[.int .i64 size, .slice a xs.length c] 24 (0, 0)) := heap_alloc_new _ _
  have k2 : Below w.heap.size w ((w.alloc (.cells #[.int .i64 size, .slice a xs.length c] 24)).alloc (.cells #[.int .i64 0, .slice none 0 0] 24)) := k1.alloc k1.size _
  have hr1 : ((w.alloc (.cells #[.int .i64 size, .slice a xs.length c] 24)).alloc (.cells #[.int .i64 0, .slice none 0 0] 24)).heap[w.heap.size]? = some (.cells #[.int .i64 size, .slice a xs.length c] 24 (0, 0)) :=
    (Below.heap_alloc _ _ _ (by simp)).trans hr0
  have h2 := h.below k2
  have hR := hr.below k2 (Nat.le_refl _)
  obtain ⟨e0, e1, e2, e3⟩ := h2.cells
  have hms := fmSome m
  have HX := hide (And.intro hb (And.intro hc (And.intro hm (And.intro hw hx))))
  have HU := hide (And.intro hu hK)
  have H2 := hide (And.intro h2 (And.intro hR (And.intro hr1 (Trn.of_below (b := b) k2 hw))))
  clear h h1 k1 hr h2 hR hr1 k2 hr0 hb hc hm hw hx hF hu hK
  go_enter Tryd.func23, Tryd.ntmps23
  go_upto_region 6 with fail
  obtain ⟨W, hW⟩ : ∃ W, W = (w.alloc (.cells #[.int .i64 size, .slice a xs.length c] 24)).alloc (.cells #[.int .i64 0, .slice none 0 0] 24) := ⟨_, rfl⟩
  rw [← hW] at H2 ⊢
  clear hW hl c0 c1 c2 c3 e0 e1 e2 e3 hms
  obtain ⟨X, hX⟩ : ∃ X, X = w.heap.size := ⟨_, rfl⟩
  have HC3 : Hid (∀ U, Below W.heap.size W U → U.cell? ⟨b, 3, none⟩ = some (.map (some m))) := fun U h => ((H2.out.1.below h).cells).2.2.2
  have HCX : Hid (∀ U, Below W.heap.size W U → U.cell? ⟨X, 0, none⟩ = some (.int .i64 size) ∧ U.cell? ⟨X, 1, none⟩ = some (.slice a xs.length c)) := fun U h => by
    obtain ⟨d0, d1, -, -⟩ := two_cells ((h.block _ (Array.getElem?_eq_some_iff.1 H2.out.2.2.1).1).trans H2.out.2.2.1)
    rw [hX]
    exact ⟨d0, d1⟩
  have HO : Hid (∀ U, Below W.heap.size W U → Calls Tryd.prog 32 #[.agg #[.int .i64 size, .slice a xs.length c]] U fun e w' => ∃ v', e = .returned (.agg #[.int .i64 size, v']) ∧ w'.ownsRow U.heap.size 9 1 v' xs.length (xs.map Value.string) ∧ Below U.heap.size U w') := fun U h => own_any size _ xs U (H2.out.2.1.below h (Nat.le_refl _)) hn
  rw [← hX]
  have HXX := hide hX
  clear hX
  refine RegionOwn.regionK 7 48 9 1 (fun i => match i with
    | 0 => RegionOwn.val (.pointer (some ⟨b, 0, none⟩))
    | 1 => RegionOwn.val (.pointer (some ⟨b, 0, none⟩))
    | 2 => RegionOwn.val (.pointer (some ⟨b, 3, none⟩))
    | 3 => RegionOwn.val (.map (some m))
    | 4 => RegionOwn.val (.string file)
    | 5 => RegionOwn.val (.agg #[.int .i64 size, .slice a xs.length c])
    | 6 => RegionOwn.fact (fun x v => ∃ v', v = .agg #[.int .i64 size, v'] ∧ x.ownsRow W.heap.size 9 1 v' xs.length (xs.map Value.string))
    | _ => RegionOwn.val undef) (fun _ => none) ?_ (by kernel_rfl) rfl (by kernel_rfl) ?_ ?_ ?_
  · intro i hi
    match i, hi with
    | 0, _ | 1, _ | 2, _ | 3, _ | 4, _ | 5, _ | 6, _ => rfl
    | i + 7, h => exact absurd h (by omega)
  · intro i p hi h
    refine ⟨fun _ _ => rfl, ?_⟩
    match i, hi, h with
    | 0, _, h | 1, _, h | 2, _, h | 3, _, h | 4, _, h | 5, _, h => cases h
    | 6, _, h => cases h; exact fun x y v ⟨v', h1, h2⟩ hb => ⟨v', h1, own_below h2 hb⟩
    | i + 7, h, _ => exact absurd h (by omega)
  · intro i hi y x' hfr hbx hD hO K2 hK2
    match i, hi with
    | 0, _ =>
      have e0 : RegionOwn.T y 0 = .pointer (some ⟨b, 0, none⟩) := RegionOwn.Fr.at hfr (by kernel_rfl) rfl
      refine RegionOwn.quietG rfl rfl hK2 rfl rfl ?_
      clear hK2 hD hfr hO
      unfold RegionOwn.T at e0
      go_simp
    | 1, _ =>
      have d0 : RegionOwn.T y 30 = .pointer (some ⟨b, 0, none⟩) := hD 0 30 (by decide) rfl (by kernel_rfl) (.inl rfl)
      refine RegionOwn.quietG rfl rfl hK2 rfl rfl ?_
      clear hK2 hD hfr hO
      unfold RegionOwn.T at d0
      go_simp
    | 2, _ =>
      have d1 : RegionOwn.T y 31 = .pointer (some ⟨b, 0, none⟩) := hD 1 31 (by decide) rfl (by kernel_rfl) (.inl rfl)
      refine RegionOwn.quietG rfl rfl hK2 rfl rfl ?_
      clear hK2 hD hfr hO
      unfold RegionOwn.T at d1
      go_simp
    | 3, _ =>
      have d2 : RegionOwn.T y 32 = .pointer (some ⟨b, 3, none⟩) := hD 2 32 (by decide) rfl (by kernel_rfl) (.inl rfl)
      have c3 := HC3.out x' hbx
      refine RegionOwn.quietG rfl rfl hK2 rfl rfl ?_
      clear hK2 hD hfr hO
      unfold RegionOwn.T at d2
      go_simp
    | 4, _ =>
      have e1 : RegionOwn.T y 1 = .string file := RegionOwn.Fr.at hfr (by kernel_rfl) rfl
      refine RegionOwn.quietG rfl rfl hK2 rfl rfl ?_
      clear hK2 hD hfr hO
      unfold RegionOwn.T at e1
      go_simp
    | 5, _ =>
      have e5 : RegionOwn.T y 5 = .pointer (some ⟨X, 0, none⟩) := RegionOwn.Fr.at hfr (by kernel_rfl) rfl
      obtain ⟨c0, c1⟩ := HCX.out x' hbx
      refine RegionOwn.quietG rfl rfl hK2 rfl rfl ?_
      clear hK2 hD hfr hO
      unfold RegionOwn.T at e5
      go_simp
    | 6, _ =>
      have d5 : RegionOwn.T y 35 = .agg #[.int .i64 size, .slice a xs.length c] := hD 5 35 (by decide) rfl (by kernel_rfl) (.inl rfl)
      refine RegionOwn.calledG (f := 32) (args := #[.agg #[.int .i64 size, .slice a xs.length c]]) rfl rfl hK2 rfl ?_ ((HO.out x' hbx).mono fun e y' h => let ⟨v', g1, g2, g3⟩ := h; ⟨_, g1, g3, v', rfl, own_from g2 hbx.size⟩)
      clear hK2 hD hfr hO
      unfold RegionOwn.T at d5
      go_simp
    | i + 7, h => exact absurd h (by omega)
  · intro y x' hfr hbx hD
    have d3 : RegionOwn.T y 33 = .map (some m) := hD 3 33 (by decide) rfl (fun _ _ h => by cases h)
    have d4 : RegionOwn.T y 34 = .string file := hD 4 34 (by decide) rfl (fun _ _ h => by cases h)
    have d6 : ∃ v', RegionOwn.T y 36 = .agg #[.int .i64 size, v'] ∧ x'.ownsRow W.heap.size 9 1 v' xs.length (xs.map Value.string) := hD 6 36 (by decide) rfl (fun _ _ h => by cases h)
    obtain ⟨v', d6, hown⟩ := d6
    obtain ⟨mn, hmn, hsl⟩ := mn_of size hown
    have e0 : RegionOwn.T y 0 = .pointer (some ⟨b, 0, none⟩) := RegionOwn.Fr.at hfr (by kernel_rfl) rfl
    have e5 : RegionOwn.T y 5 = .pointer (some ⟨X, 0, none⟩) := RegionOwn.Fr.at hfr (by kernel_rfl) rfl
    have hl48 : List.range 48 = [0, 1, 2, 3, 4, 5, 6, 7, 8, 9, 10, 11, 12, 13, 14, 15, 16, 17, 18, 19, 20, 21, 22, 23, 24, 25, 26, 27, 28, 29, 30, 31, 32, 33, 34, 35, 36, 37, 38, 39, 40, 41, 42, 43, 44, 45, 46, 47] := by decide
    have hdf : y.defers = [] := hfr.defers
    rw [RegionOwn.act_lit y 48 (hfr.size.trans rfl), hl48, hdf]
    simp only [List.map_cons, List.map_nil, List.drop_succ_cons, List.drop_zero, d3, d4, d6, e0, e5]
    have h3 := H2.out.1.below hbx
    obtain ⟨w3, hrun, hm3, hg3⟩ := h3.fi.update Tryd.underlying9 Tryd.underlying53 (Nat.lt_of_le_of_lt (Nat.le_trans (Nat.le_succ K) (Nat.le_add_right _ _)) HU.out.2) file hs mn
    replace hrun : (Instr.mapUpdate 53 (.map (some m)) (.string file) (.agg #[.int .i64 mn.size, mn.sl])).run Tryd.prog x' = .ok () w3 := hrun
    rw [hmn, hsl] at hrun
    obtain ⟨hb, hc, hm, hw, hx⟩ := HX.out
    have hwW : base ≤ W.heap.size := Nat.le_trans hw H2.out.2.2.2.below.size
    have t3 : Trn base b x' w3 := .of_map hg3 (h3.fi.kind rfl) hm
    have s3 : StX Tryd.prog 55 base (K + 1) b q u C (known F file mn) w3 := by
      refine ⟨cm, _, ⟨?_, ?_, hm3, h3.apart⟩, hb, hc, fun x e => by cases e; exact hm⟩
      · refine (hg3.block b (Array.getElem?_eq_some_iff.1 h3.row).1 fun e => ?_).trans h3.row
        cases e
        obtain ⟨es, cl, e⟩ := h3.fi.kind rfl
        rw [h3.row] at e
        cases e
      · refine (h3.ch.kept fun y hy => hg3.block y (h3.ch.lt hy) fun e => ?_).mono (Nat.le_succ K)
        cases e
        exact h3.apart _ hy rfl
    have sx : StX Tryd.prog 55 base K b q u C F x' := ⟨cm, _, h3, hb, hc, fun x e => by cases e; exact hm⟩
    have rd3 : StrRow.Reads w3 mn.sl xs := by rw [hsl]; exact reads_trn sx (StrRow.Reads.of_own hown) t3
    have ro3 : StrRow.Reads w3 (.slice a xs.length c) xs := reads_trn sx (H2.out.2.1.below hbx (Nat.le_refl _)) t3
    have hXb : X ≠ b := by
      rw [HXX.out]
      intro e
      have e1 := H2.out.2.2.1
      rw [e, H2.out.1.row] at e1
      cases e1
    have row3 : w3.heap[X]? = some (.cells #[.int .i64 size, .slice a xs.length c] 24 (0, 0)) := t3.kept _ _ _ _ hXb (by rw [HXX.out]; exact (hbx.block _ (Array.getElem?_eq_some_iff.1 H2.out.2.2.1).1).trans H2.out.2.2.1)
    have T3 : Trn base b w w3 := (H2.out.2.2.2.trans (.of_below hbx hwW)).trans t3
    obtain ⟨f0, f1, -, -⟩ := two_cells row3
    have H3 := hide (And.intro s3 (And.intro rd3 (And.intro ro3 (And.intro T3 (And.intro hmn hx)))))
    have hn' : (xs.length : Int) ≤ 1000 := by omega
    clear hD hfr d3 d4 d6 e0 e5 hl48 hdf h3 hm3 hg3 t3 s3 sx rd3 ro3 T3 hXb row3 hown hsl hmn hb hc hm hw hx hwW HX HXX HO HC3 HCX H2 hbx
    go_wp2_with fail
    go_loopw [40] (fun vi wr => ∃ i : Nat, i ≤ xs.length ∧ vi = .int .i64 i ∧ Hid (StX Tryd.prog 55 base (K + 1 + i) b q u (usedAll C (xs.take i)) (known F file mn) wr ∧ StrRow.Reads wr mn.sl xs ∧ StrRow.Reads wr (.slice a xs.length c) xs ∧ Trn base b w wr)) (fun vi _ => 1000 - (intOf vi).toNat)
    case atStart => exact ⟨0, Nat.zero_le _, rfl, H3.out.1, H3.out.2.1, H3.out.2.2.1, H3.out.2.2.2.1⟩
    case round =>
      obtain ⟨i, hi, rfl, HH⟩ := hrel
      by_cases hlt : i < xs.length
      · have hlt' : (i : Int) < xs.length := by omega
        have hrd := HH.out.2.2.1
        obtain ⟨b', off, cap, hv, hcap, hbl⟩ := hrd.at (by intro h; rw [h] at hlt; simp at hlt)
        simp only [Value.slice.injEq, true_and] at hv
        obtain ⟨rfl, rfl⟩ := hv
        obtain ⟨x, hx⟩ : ∃ x, xs[i]? = some x := ⟨_, List.getElem?_eq_getElem hlt⟩
        have hcell := hrd.cell hx
        have HT : Hid (usedAll C (xs.take (i + 1)) = laid (usedAll C (xs.take i)) x ⟨(pc (usedAll C (xs.take i)) x).b, (pc (usedAll C (xs.take i)) x).u + 1⟩) := by
          show _ = _
          rw [List.take_add_one, hx]
          exact usedAll_snoc _ _ _
        have hbd := usedAll_u (xs.take i) C x
        rw [List.length_take_of_le hi] at hbd
        have hxu := HU.out.1 x
        have HC := hide (use_any x wr HH.out.1 (H3.out.2.2.2.2.2 x (List.mem_of_getElem? hx)) (by have := HU.out.2; omega) ⟨by omega, by omega⟩)
        clear hx hrd hbd hxu
        go_wp2_with (go_at_call 39; refine HC.out.mono ?_; rintro e w4 ⟨rfl, hs4, ht4⟩; have H4 := hide (And.intro hs4 ht4); clear hs4 ht4)
        go_roundw
        case rel => exact ⟨i + 1, by omega, by go_num, by rw [HT.out]; exact H4.out.1, reads_trn HH.out.1 HH.out.2.1 H4.out.2, reads_trn HH.out.1 HH.out.2.2.1 H4.out.2, HH.out.2.2.2.trans H4.out.2⟩
        case measure => simp [intOf]; omega
      · have hlt' : ¬ ((i : Int) < xs.length) := by omega
        have hin : i = xs.length := by omega
        subst hin
        rw [List.take_of_length_le (Nat.le_refl _)] at HH
        go_wp2_with fail
        go_ret
        exact ⟨rfl, mn, H3.out.2.2.2.2.1, HH.out.2.1, HH.out.1, HH.out.2.2.2⟩
/-- A new map of files laid into a store's block. -/
theorem Stm.fresh3 {base K b : Nat} {q u : Int} {cm : Option Nat} {C : ByteArray → Option Pc} {F : ByteArray → Option Mn} (w : World) (h : StAt Tryd.prog 55 K b q u cm none C F w) (hb : base ≤ b) :
    StAt Tryd.prog 55 K b q u cm (some w.heap.size) C F ((w.alloc (.map #[] 0)).setCell ⟨b, 3, none⟩ (.map (some w.heap.size))) ∧ Trn base b w ((w.alloc (.map #[] 0)).setCell ⟨b, 3, none⟩ (.map (some w.heap.size))) := by
  have hl := (Array.getElem?_eq_some_iff.1 h.row).1
  have k := (Below.refl w.heap.size w).alloc (Nat.le_refl _) (.map #[] 0)
  have h1 := h.below k
  have hF : ∀ s, F s = none := by
    rcases h.fi with h | ⟨_, _, _, e, _⟩
    · exact h.2
    · cases e
  obtain rfl : F = fun _ => none := funext hF
  refine ⟨⟨?_, ?_, ?_, ?_⟩, (Trn.of_below k (by omega)).trans (.set _ _ _ hb)⟩
  · rw [heap_setCell_same _ _ _ _ _ _ h1.row]
    rfl
  · refine h1.ch.kept fun y e => Below.heap_setCell _ _ _ _ fun e2 => ?_
    obtain ⟨es, cl, e3⟩ := h1.ch.kind e
    have e4 := h1.row
    dsimp only at e2
    rw [e2, e4] at e3
    cases e3
  · refine (MapF.made Tryd.prog mnE K w).kept fun y e => ?_
    cases e
    exact Below.heap_setCell _ _ _ _ (Nat.ne_of_gt hl)
  · rintro x e e2
    cases e2
    exact Nat.lt_irrefl _ (h.ch.lt e)
set_option maxRecDepth 100000 in
set_option maxHeartbeats 4000000 in
theorem know_none {base K b : Nat} {q u : Int} {cm : Option Nat} {C : ByteArray → Option Pc} {F : ByteArray → Option Mn} (file : ByteArray) (size : Int) (v : Value) (xs : List ByteArray) (w : World) (h : StAt Tryd.prog 55 K b q u cm none C F w) (hb : base ≤ b) (hc : ∀ x, cm = some x → base ≤ x)
    (hr : StrRow.Reads w v xs) (hn : xs.length ≤ 1000) (hx : ∀ s ∈ xs, s.size ≤ maxLen) (hF : F file = none) (hs : file.size ≤ maxLen) (hK : K + 1 + xs.length < maxLen) (hu : ∀ s, 0 ≤ (pc C s).u ∧ (pc C s).u + xs.length < 1000000) :
    Calls Tryd.prog 23 #[.pointer (some ⟨b, 0, none⟩), .string file, .agg #[.int .i64 size, v]] w fun e w' => e = .returned (.bool true) ∧ ∃ mn : Mn, mn.size = size ∧ StrRow.Reads w' mn.sl xs ∧ StX Tryd.prog 55 base (K + 1 + xs.length) b q u (usedAll C xs) (known F file mn) w' ∧ Trn base b w w' := by
  obtain ⟨a, c, rfl⟩ := hr.form
  have hw : base ≤ w.heap.size := Nat.le_of_lt (Nat.lt_of_le_of_lt hb (Array.getElem?_eq_some_iff.1 h.row).1)
  have k1 : Below w.heap.size w (w.alloc (.cells #[.int .i64 size, .slice a xs.length c] 24)) := (Below.refl _ w).alloc (Nat.le_refl _) _
  have h1 := h.below k1
  have hl := h1.fi.look Tryd.underlying9 Tryd.underlying53 (zeroMn _) true file hs
  rw [hF] at hl
  replace hl : (Instr.lookup 53 (.map none) (.string file) true).run Tryd.prog (w.alloc (.cells #[.int .i64 size, .slice a xs.length c] 24)) = .ok (.tuple #[.agg #[.int .i64 0, .slice none 0 0], .bool false]) _ := hl
  obtain ⟨c0, c1, c2, c3⟩ := h1.cells
  have hr0 : (w.alloc (.cells #[.int .i64 size, .slice a xs.length c] 24)).heap[w.heap.size]? = some (.cells #[.int .i64 size, .slice a xs.length c] 24 (0, 0)) := heap_alloc_new _ _
  have k2 : Below w.heap.size w ((w.alloc (.cells #[.int .i64 size, .slice a xs.length c] 24)).alloc (.cells #[.int .i64 0, .slice none 0 0] 24)) := k1.alloc k1.size _
  have hr1 : ((w.alloc (.cells #[.int .i64 size, .slice a xs.length c] 24)).alloc (.cells #[.int .i64 0, .slice none 0 0] 24)).heap[w.heap.size]? = some (.cells #[.int .i64 size, .slice a xs.length c] 24 (0, 0)) :=
    (Below.heap_alloc _ _ _ (by simp)).trans hr0
  have h2 := h.below k2
  have hR := hr.below k2 (Nat.le_refl _)
  obtain ⟨e0, e1, e2, e3⟩ := h2.cells
  have hms := fmNone
  have hmk := @run_makeMap Tryd.prog
  have HX0 := hide (And.intro hb (And.intro hc (And.intro hw hx)))
  have HU := hide (And.intro hu hK)
  have H0 := hide (And.intro h2 (And.intro hR (And.intro hr1 k2)))
  clear h h1 k1 hr h2 hR hr1 k2 hr0 hb hc hw hx hF hu hK
  go_enter Tryd.func23, Tryd.ntmps23
  go_upto_region 4 with fail
  obtain ⟨V, hV⟩ : ∃ V, V = (w.alloc (.cells #[.int .i64 size, .slice a xs.length c] 24)).alloc (.cells #[.int .i64 0, .slice none 0 0] 24) := ⟨_, rfl⟩
  rw [← hV] at H0 e0 e1 e2 e3 ⊢
  clear hV hl c0 c1 c2 c3
  obtain ⟨m, hmV⟩ : ∃ m, m = V.heap.size := ⟨_, rfl⟩
  have hfa := H0.out.1.below ((Below.refl _ V).alloc (Nat.le_refl _) (.map #[] 0))
  have ca : (V.alloc (.map #[] 0)).cell? ⟨b, 3, none⟩ = some (.map none) := hfa.cells.2.2.2
  have hfz : (V.alloc (.map #[] 0)).frozen? ⟨b, 3, none⟩ = false := frozen_of_row _ _ _ _ _ hfa.row
  clear hfa
  go_upto_region 6 with fail
  obtain ⟨W, hW⟩ : ∃ W, W = (V.alloc (.map #[] 0)).setCell ⟨b, 3, none⟩ (.map (some V.heap.size)) := ⟨_, rfl⟩
  rw [← hW, ← hmV]
  have H2 : Hid (StAt Tryd.prog 55 K b q u cm (some m) C F W ∧ StrRow.Reads W (.slice a xs.length c) xs ∧ W.heap[w.heap.size]? = some (.cells #[.int .i64 size, .slice a xs.length c] 24 (0, 0)) ∧ Trn base b w W) := by
    obtain ⟨g1, g2, g3, g4⟩ := H0.out
    obtain ⟨hb, hc, hw, -⟩ := HX0.out
    obtain ⟨s1, s2⟩ := Stm.fresh3 V g1 hb
    rw [hW, hmV]
    refine ⟨s1, reads_trn ⟨cm, none, g1, hb, hc, fun _ e => by cases e⟩ g2 s2, s2.kept _ _ _ _ (fun e => ?_) g3, (Trn.of_below g4 hw).trans s2⟩
    rw [e, g1.row] at g3
    cases g3
  have HX : Hid (base ≤ b ∧ (∀ x, cm = some x → base ≤ x) ∧ base ≤ m ∧ base ≤ w.heap.size ∧ ∀ s ∈ xs, s.size ≤ maxLen) := by
    obtain ⟨hb, hc, hw, hx⟩ := HX0.out
    exact ⟨hb, hc, by rw [hmV]; exact Nat.le_trans hw H0.out.2.2.2.size, hw, hx⟩
  clear hW hmV H0 HX0 e0 e1 e2 e3 ca hfz hms hmk
  obtain ⟨X, hX⟩ : ∃ X, X = w.heap.size := ⟨_, rfl⟩
  have HC3 : Hid (∀ U, Below W.heap.size W U → U.cell? ⟨b, 3, none⟩ = some (.map (some m))) := fun U h => ((H2.out.1.below h).cells).2.2.2
  have HCX : Hid (∀ U, Below W.heap.size W U → U.cell? ⟨X, 0, none⟩ = some (.int .i64 size) ∧ U.cell? ⟨X, 1, none⟩ = some (.slice a xs.length c)) := fun U h => by
    obtain ⟨d0, d1, -, -⟩ := two_cells ((h.block _ (Array.getElem?_eq_some_iff.1 H2.out.2.2.1).1).trans H2.out.2.2.1)
    rw [hX]
    exact ⟨d0, d1⟩
  have HO : Hid (∀ U, Below W.heap.size W U → Calls Tryd.prog 32 #[.agg #[.int .i64 size, .slice a xs.length c]] U fun e w' => ∃ v', e = .returned (.agg #[.int .i64 size, v']) ∧ w'.ownsRow U.heap.size 9 1 v' xs.length (xs.map Value.string) ∧ Below U.heap.size U w') := fun U h => own_any size _ xs U (H2.out.2.1.below h (Nat.le_refl _)) hn
  rw [← hX]
  have HXX := hide hX
  clear hX
  refine RegionOwn.regionK 7 48 9 1 (fun i => match i with
    | 0 => RegionOwn.val (.pointer (some ⟨b, 0, none⟩))
    | 1 => RegionOwn.val (.pointer (some ⟨b, 0, none⟩))
    | 2 => RegionOwn.val (.pointer (some ⟨b, 3, none⟩))
    | 3 => RegionOwn.val (.map (some m))
    | 4 => RegionOwn.val (.string file)
    | 5 => RegionOwn.val (.agg #[.int .i64 size, .slice a xs.length c])
    | 6 => RegionOwn.fact (fun x v => ∃ v', v = .agg #[.int .i64 size, v'] ∧ x.ownsRow W.heap.size 9 1 v' xs.length (xs.map Value.string))
    | _ => RegionOwn.val undef) (fun _ => none) ?_ (by kernel_rfl) rfl (by kernel_rfl) ?_ ?_ ?_
  · intro i hi
    match i, hi with
    | 0, _ | 1, _ | 2, _ | 3, _ | 4, _ | 5, _ | 6, _ => rfl
    | i + 7, h => exact absurd h (by omega)
  · intro i p hi h
    refine ⟨fun _ _ => rfl, ?_⟩
    match i, hi, h with
    | 0, _, h | 1, _, h | 2, _, h | 3, _, h | 4, _, h | 5, _, h => cases h
    | 6, _, h => cases h; exact fun x y v ⟨v', h1, h2⟩ hb => ⟨v', h1, own_below h2 hb⟩
    | i + 7, h, _ => exact absurd h (by omega)
  · intro i hi y x' hfr hbx hD hO K2 hK2
    match i, hi with
    | 0, _ =>
      have e0 : RegionOwn.T y 0 = .pointer (some ⟨b, 0, none⟩) := RegionOwn.Fr.at hfr (by kernel_rfl) rfl
      refine RegionOwn.quietG rfl rfl hK2 rfl rfl ?_
      clear hK2 hD hfr hO
      unfold RegionOwn.T at e0
      go_simp
    | 1, _ =>
      have d0 : RegionOwn.T y 30 = .pointer (some ⟨b, 0, none⟩) := hD 0 30 (by decide) rfl (by kernel_rfl) (.inl rfl)
      refine RegionOwn.quietG rfl rfl hK2 rfl rfl ?_
      clear hK2 hD hfr hO
      unfold RegionOwn.T at d0
      go_simp
    | 2, _ =>
      have d1 : RegionOwn.T y 31 = .pointer (some ⟨b, 0, none⟩) := hD 1 31 (by decide) rfl (by kernel_rfl) (.inl rfl)
      refine RegionOwn.quietG rfl rfl hK2 rfl rfl ?_
      clear hK2 hD hfr hO
      unfold RegionOwn.T at d1
      go_simp
    | 3, _ =>
      have d2 : RegionOwn.T y 32 = .pointer (some ⟨b, 3, none⟩) := hD 2 32 (by decide) rfl (by kernel_rfl) (.inl rfl)
      have c3 := HC3.out x' hbx
      refine RegionOwn.quietG rfl rfl hK2 rfl rfl ?_
      clear hK2 hD hfr hO
      unfold RegionOwn.T at d2
      go_simp
    | 4, _ =>
      have e1 : RegionOwn.T y 1 = .string file := RegionOwn.Fr.at hfr (by kernel_rfl) rfl
      refine RegionOwn.quietG rfl rfl hK2 rfl rfl ?_
      clear hK2 hD hfr hO
      unfold RegionOwn.T at e1
      go_simp
    | 5, _ =>
      have e5 : RegionOwn.T y 5 = .pointer (some ⟨X, 0, none⟩) := RegionOwn.Fr.at hfr (by kernel_rfl) rfl
      obtain ⟨c0, c1⟩ := HCX.out x' hbx
      refine RegionOwn.quietG rfl rfl hK2 rfl rfl ?_
      clear hK2 hD hfr hO
      unfold RegionOwn.T at e5
      go_simp
    | 6, _ =>
      have d5 : RegionOwn.T y 35 = .agg #[.int .i64 size, .slice a xs.length c] := hD 5 35 (by decide) rfl (by kernel_rfl) (.inl rfl)
      refine RegionOwn.calledG (f := 32) (args := #[.agg #[.int .i64 size, .slice a xs.length c]]) rfl rfl hK2 rfl ?_ ((HO.out x' hbx).mono fun e y' h => let ⟨v', g1, g2, g3⟩ := h; ⟨_, g1, g3, v', rfl, own_from g2 hbx.size⟩)
      clear hK2 hD hfr hO
      unfold RegionOwn.T at d5
      go_simp
    | i + 7, h => exact absurd h (by omega)
  · intro y x' hfr hbx hD
    have d3 : RegionOwn.T y 33 = .map (some m) := hD 3 33 (by decide) rfl (fun _ _ h => by cases h)
    have d4 : RegionOwn.T y 34 = .string file := hD 4 34 (by decide) rfl (fun _ _ h => by cases h)
    have d6 : ∃ v', RegionOwn.T y 36 = .agg #[.int .i64 size, v'] ∧ x'.ownsRow W.heap.size 9 1 v' xs.length (xs.map Value.string) := hD 6 36 (by decide) rfl (fun _ _ h => by cases h)
    obtain ⟨v', d6, hown⟩ := d6
    obtain ⟨mn, hmn, hsl⟩ := mn_of size hown
    have e0 : RegionOwn.T y 0 = .pointer (some ⟨b, 0, none⟩) := RegionOwn.Fr.at hfr (by kernel_rfl) rfl
    have e5 : RegionOwn.T y 5 = .pointer (some ⟨X, 0, none⟩) := RegionOwn.Fr.at hfr (by kernel_rfl) rfl
    have hl48 : List.range 48 = [0, 1, 2, 3, 4, 5, 6, 7, 8, 9, 10, 11, 12, 13, 14, 15, 16, 17, 18, 19, 20, 21, 22, 23, 24, 25, 26, 27, 28, 29, 30, 31, 32, 33, 34, 35, 36, 37, 38, 39, 40, 41, 42, 43, 44, 45, 46, 47] := by decide
    have hdf : y.defers = [] := hfr.defers
    rw [RegionOwn.act_lit y 48 (hfr.size.trans rfl), hl48, hdf]
    simp only [List.map_cons, List.map_nil, List.drop_succ_cons, List.drop_zero, d3, d4, d6, e0, e5]
    have h3 := H2.out.1.below hbx
    obtain ⟨w3, hrun, hm3, hg3⟩ := h3.fi.update Tryd.underlying9 Tryd.underlying53 (Nat.lt_of_le_of_lt (Nat.le_trans (Nat.le_succ K) (Nat.le_add_right _ _)) HU.out.2) file hs mn
    replace hrun : (Instr.mapUpdate 53 (.map (some m)) (.string file) (.agg #[.int .i64 mn.size, mn.sl])).run Tryd.prog x' = .ok () w3 := hrun
    rw [hmn, hsl] at hrun
    obtain ⟨hb, hc, hm, hw, hx⟩ := HX.out
    have hwW : base ≤ W.heap.size := Nat.le_trans hw H2.out.2.2.2.below.size
    have t3 : Trn base b x' w3 := .of_map hg3 (h3.fi.kind rfl) hm
    have s3 : StX Tryd.prog 55 base (K + 1) b q u C (known F file mn) w3 := by
      refine ⟨cm, _, ⟨?_, ?_, hm3, h3.apart⟩, hb, hc, fun x e => by cases e; exact hm⟩
      · refine (hg3.block b (Array.getElem?_eq_some_iff.1 h3.row).1 fun e => ?_).trans h3.row
        cases e
        obtain ⟨es, cl, e⟩ := h3.fi.kind rfl
        rw [h3.row] at e
        cases e
      · refine (h3.ch.kept fun y hy => hg3.block y (h3.ch.lt hy) fun e => ?_).mono (Nat.le_succ K)
        cases e
        exact h3.apart _ hy rfl
    have sx : StX Tryd.prog 55 base K b q u C F x' := ⟨cm, _, h3, hb, hc, fun x e => by cases e; exact hm⟩
    have rd3 : StrRow.Reads w3 mn.sl xs := by rw [hsl]; exact reads_trn sx (StrRow.Reads.of_own hown) t3
    have ro3 : StrRow.Reads w3 (.slice a xs.length c) xs := reads_trn sx (H2.out.2.1.below hbx (Nat.le_refl _)) t3
    have hXb : X ≠ b := by
      rw [HXX.out]
      intro e
      have e1 := H2.out.2.2.1
      rw [e, H2.out.1.row] at e1
      cases e1
    have row3 : w3.heap[X]? = some (.cells #[.int .i64 size, .slice a xs.length c] 24 (0, 0)) := t3.kept _ _ _ _ hXb (by rw [HXX.out]; exact (hbx.block _ (Array.getElem?_eq_some_iff.1 H2.out.2.2.1).1).trans H2.out.2.2.1)
    have T3 : Trn base b w w3 := (H2.out.2.2.2.trans (.of_below hbx hwW)).trans t3
    obtain ⟨f0, f1, -, -⟩ := two_cells row3
    have H3 := hide (And.intro s3 (And.intro rd3 (And.intro ro3 (And.intro T3 (And.intro hmn hx)))))
    have hn' : (xs.length : Int) ≤ 1000 := by omega
    clear hD hfr d3 d4 d6 e0 e5 hl48 hdf h3 hm3 hg3 t3 s3 sx rd3 ro3 T3 hXb row3 hown hsl hmn hb hc hm hw hx hwW HX HXX HO HC3 HCX H2 hbx
    go_wp2_with fail
    go_loopw [40] (fun vi wr => ∃ i : Nat, i ≤ xs.length ∧ vi = .int .i64 i ∧ Hid (StX Tryd.prog 55 base (K + 1 + i) b q u (usedAll C (xs.take i)) (known F file mn) wr ∧ StrRow.Reads wr mn.sl xs ∧ StrRow.Reads wr (.slice a xs.length c) xs ∧ Trn base b w wr)) (fun vi _ => 1000 - (intOf vi).toNat)
    case atStart => exact ⟨0, Nat.zero_le _, rfl, H3.out.1, H3.out.2.1, H3.out.2.2.1, H3.out.2.2.2.1⟩
    case round =>
      obtain ⟨i, hi, rfl, HH⟩ := hrel
      by_cases hlt : i < xs.length
      · have hlt' : (i : Int) < xs.length := by omega
        have hrd := HH.out.2.2.1
        obtain ⟨b', off, cap, hv, hcap, hbl⟩ := hrd.at (by intro h; rw [h] at hlt; simp at hlt)
        simp only [Value.slice.injEq, true_and] at hv
        obtain ⟨rfl, rfl⟩ := hv
        obtain ⟨x, hx⟩ : ∃ x, xs[i]? = some x := ⟨_, List.getElem?_eq_getElem hlt⟩
        have hcell := hrd.cell hx
        have HT : Hid (usedAll C (xs.take (i + 1)) = laid (usedAll C (xs.take i)) x ⟨(pc (usedAll C (xs.take i)) x).b, (pc (usedAll C (xs.take i)) x).u + 1⟩) := by
          show _ = _
          rw [List.take_add_one, hx]
          exact usedAll_snoc _ _ _
        have hbd := usedAll_u (xs.take i) C x
        rw [List.length_take_of_le hi] at hbd
        have hxu := HU.out.1 x
        have HC := hide (use_any x wr HH.out.1 (H3.out.2.2.2.2.2 x (List.mem_of_getElem? hx)) (by have := HU.out.2; omega) ⟨by omega, by omega⟩)
        clear hx hrd hbd hxu
        go_wp2_with (go_at_call 39; refine HC.out.mono ?_; rintro e w4 ⟨rfl, hs4, ht4⟩; have H4 := hide (And.intro hs4 ht4); clear hs4 ht4)
        go_roundw
        case rel => exact ⟨i + 1, by omega, by go_num, by rw [HT.out]; exact H4.out.1, reads_trn HH.out.1 HH.out.2.1 H4.out.2, reads_trn HH.out.1 HH.out.2.2.1 H4.out.2, HH.out.2.2.2.trans H4.out.2⟩
        case measure => simp [intOf]; omega
      · have hlt' : ¬ ((i : Int) < xs.length) := by omega
        have hin : i = xs.length := by omega
        subst hin
        rw [List.take_of_length_le (Nat.le_refl _)] at HH
        go_wp2_with fail
        go_ret
        exact ⟨rfl, mn, H3.out.2.2.2.2.1, HH.out.2.1, HH.out.1, HH.out.2.2.2⟩
theorem know_any {base K b : Nat} {q u : Int} {C : ByteArray → Option Pc} {F : ByteArray → Option Mn} (file : ByteArray) (size : Int) (v : Value) (xs : List ByteArray) (w : World) (h : StX Tryd.prog 55 base K b q u C F w)
    (hr : StrRow.Reads w v xs) (hn : xs.length ≤ 1000) (hx : ∀ s ∈ xs, s.size ≤ maxLen) (hF : F file = none) (hs : file.size ≤ maxLen) (hK : K + 1 + xs.length < maxLen) (hu : ∀ s, 0 ≤ (pc C s).u ∧ (pc C s).u + xs.length < 1000000) :
    Calls Tryd.prog 23 #[.pointer (some ⟨b, 0, none⟩), .string file, .agg #[.int .i64 size, v]] w fun e w' => e = .returned (.bool true) ∧ ∃ mn : Mn, mn.size = size ∧ StrRow.Reads w' mn.sl xs ∧ StX Tryd.prog 55 base (K + 1 + xs.length) b q u (usedAll C xs) (known F file mn) w' ∧ Trn base b w w' := by
  obtain ⟨cm, fm, h, hb, hc, hf⟩ := h
  cases fm with
  | none => exact know_none file size v xs w h hb hc hr hn hx hF hs hK hu
  | some m => exact know_some file size v xs w h hb hc (hf m rfl) hr hn hx hF hs hK hu
end Go.Proofs.YtigkemkebceacaaDoor
/- Which of some chunks are not there, of each the first place. -/
namespace Go.St10
open Go.RowKit Go.MapFun
def rInt (v : Value) : Option (DataW Unit × List MemPlace) :=
  match v with
  | .int .i64 n => some (.lit (.int .i64 n), [])
  | _ => none
def intE : Enc Int where
  R := rInt
  v n := .int .i64 n
  d n := .lit (.int .i64 n)
  reads _ := rfl
  inv x y h := by
    unfold rInt at h
    split at h
    · exact ⟨_, rfl, (Option.some.inj h).symm⟩
    · cases h
  inj a b h := by
    simp only [DataW.lit.injEq, Lit.int.injEq, true_and] at h
    exact h
  ne a h := by cases h
/-- How often a text is among some. -/
def cnt (l : List ByteArray) (t : ByteArray) : Nat := (l.filter fun y => decide (y = t)).length
theorem cnt_snoc (l : List ByteArray) (x t : ByteArray) : cnt (l ++ [x]) t = cnt l t + if x = t then 1 else 0 := by
  unfold cnt
  rw [List.filter_append, List.length_append]
  by_cases e : x = t <;> simp [e]
theorem cnt_le (l : List ByteArray) (t : ByteArray) : cnt l t ≤ l.length := List.length_filter_le _ _
def cntF (l : List ByteArray) : ByteArray → Option Int := fun t => if cnt l t = 0 then none else some (cnt l t)
theorem cntF_nil : cntF [] = fun _ => none := funext fun t => by simp [cntF, cnt]
theorem cntF_snoc (l : List ByteArray) (x : ByteArray) : cntF (l ++ [x]) = fun t => if t = x then some ((cnt l x : Int) + 1) else cntF l t := by
  funext t
  unfold cntF
  rw [cnt_snoc]
  by_cases e : t = x
  · subst e
    simp
  · rw [if_neg (fun h : x = t => e h.symm), if_neg e, Nat.add_zero]
theorem got_cnt (l : List ByteArray) (x : ByteArray) : got false (.int .i64 0) intE (cntF l x) = .int .i64 (cnt l x) := by
  unfold cntF
  split
  · rename_i h; rw [h]; rfl
  · rfl
theorem own_isrow {w : World} {base e k n g : Nat} {v : Value} {xs : List Value} (h : w.ownsRow base e k v n xs) (hg : v.ownBlock = some g) : ∃ cs, w.heap[g]? = some (.cells cs e (0, 0)) := by
  obtain ⟨_, ⟨rfl, _⟩ | ⟨g', cap, cur, rfl, _, h3, _⟩⟩ := h
  · cases hg
  · cases hg
    exact ⟨_, h3⟩
/-- The places of chunks that are not there, of each the first, up to a place. -/
def lackTo (C : ByteArray → Option Pc) (xs : List ByteArray) (i : Nat) : List Nat := (List.range i).filter fun j => cnt (xs.take j) (xs.getD j ByteArray.empty) == 0 && (pc C (xs.getD j ByteArray.empty)).b.toList == []
def nats (l : List Nat) : List Value := l.map fun j : Nat => Value.int .i64 (j : Int)
theorem lackTo_succ (C : ByteArray → Option Pc) (xs : List ByteArray) (i : Nat) (x : ByteArray) (hx : xs[i]? = some x) :
    lackTo C xs (i + 1) = lackTo C xs i ++ if (cnt (xs.take i) x == 0 && (pc C x).b.toList == []) = true then [i] else [] := by
  unfold lackTo
  rw [List.range_succ, List.filter_append]
  congr 1
  have : xs.getD i ByteArray.empty = x := by simp [List.getD, hx]
  rw [List.filter_cons, this]
  rfl
theorem lackTo_le (C : ByteArray → Option Pc) (xs : List ByteArray) (i : Nat) : (lackTo C xs i).length ≤ i := by
  have := List.length_filter_le (fun j => cnt (xs.take j) (xs.getD j ByteArray.empty) == 0 && (pc C (xs.getD j ByteArray.empty)).b.toList == []) (List.range i)
  rw [List.length_range] at this
  exact this
theorem lackTo_lt {C : ByteArray → Option Pc} {xs : List ByteArray} {i j : Nat} (h : j ∈ lackTo C xs i) : j < i := List.mem_range.1 (List.mem_filter.1 h).1
end Go.St10
namespace Go.Proofs.YtigkemkebceacaaDoor
open Go.RowKit Go.Shelf Go.Wire Go.Mk Go.Chunk Go.MapFun Go.St10
attribute [local go_sem] Oper.semAt_some
theorem slInfo3 : (Tryd.prog.info? 3).map (fun i => (i.zero, i.size, i.bytes)) = some (some (.int .i64 0), 1, 8) := by kernel_rfl
theorem zeroI (w : World) : (zeroValue 3).run Tryd.prog w = .ok (.int .i64 0) w := by kernel_rfl
theorem makeHint (n : Int) (w : World) : (Instr.makeMap 79 (some (.int .i64 n))).run Tryd.prog w = .ok (.map (some w.heap.size)) (w.alloc (.map #[] 0)) := by
  simp [Instr.makeMap, run_underlying Tryd.underlying79, asInt, asIntOf, Result.andThen]
theorem hasX {base K b : Nat} {q u : Int} {C : ByteArray → Option Pc} {F : ByteArray → Option Mn} (s : ByteArray) (w : World) (h : StX Tryd.prog 55 base K b q u C F w) (hs : s.size ≤ maxLen) :
    Calls Tryd.prog 31 #[.pointer (some ⟨b, 0, none⟩), .string s] w fun e w' => e = .returned (.bool (!((pc C s).b.toList == []))) ∧ w' = w := by
  obtain ⟨cm, fm, h, -⟩ := h
  exact has_any s w h hs
set_option maxRecDepth 100000 in
set_option maxHeartbeats 4000000 in
theorem lacking_any {base K b : Nat} {q u : Int} {C : ByteArray → Option Pc} {F : ByteArray → Option Mn} (v : Value) (xs : List ByteArray) (w : World) (h : StX Tryd.prog 55 base K b q u C F w) (hr : StrRow.Reads w v xs) (hn : xs.length ≤ 1000) (hx : ∀ s ∈ xs, s.size ≤ maxLen) :
    Calls Tryd.prog 27 #[.pointer (some ⟨b, 0, none⟩), v] w fun e w' => ∃ v', e = .returned v' ∧ w'.ownsRow w.heap.size 3 1 v' (lackTo C xs xs.length).length (nats (lackTo C xs xs.length)) ∧ Below w.heap.size w w' := by
  obtain ⟨i3, hi3, hz0, hz1, hz2⟩ := info_parts slInfo3
  obtain ⟨a, c, rfl⟩ := hr.form
  have HS := hide (And.intro h (And.intro hr hx))
  have hmk := makeHint
  have hn' : (xs.length : Int) ≤ 1000 := by omega
  clear h hr hx
  go_enter Tryd.func27, Tryd.ntmps27
  go_wp2_with fail
  go_loopw [5, 14] (fun vp vi wr => ∃ i : Nat, i ≤ xs.length ∧ vi = .int .i64 i ∧ Hid (wr.ownsRow w.heap.size 3 1 vp (lackTo C xs i).length (nats (lackTo C xs i)) ∧ MapF Tryd.prog intE i wr (some w.heap.size) (cntF (xs.take i)) ∧ Below w.heap.size w wr)) (fun _ vi _ => 1000 - (intOf vi).toNat)
  case atStart => exact ⟨0, Nat.zero_le _, rfl, World.ownsRow_nil _ _ _ _, by rw [List.take_zero, cntF_nil]; exact MapF.made _ _ _ _, (Below.refl _ w).alloc (Nat.le_refl _) _⟩
  case round =>
    obtain ⟨i, hi, rfl, HH⟩ := hrel
    by_cases hlt : i < xs.length
    · have hlt' : (i : Int) < xs.length := by omega
      have hrd := HS.out.2.1.below HH.out.2.2 (Nat.le_refl _)
      obtain ⟨b', off, cap, hv, hcap, hbl⟩ := hrd.at (by intro h; rw [h] at hlt; simp at hlt)
      simp only [Value.slice.injEq, true_and] at hv
      obtain ⟨rfl, rfl⟩ := hv
      obtain ⟨x, hx⟩ : ∃ x, xs[i]? = some x := ⟨_, List.getElem?_eq_getElem hlt⟩
      have hcell := hrd.cell hx
      have hxs := HS.out.2.2 x (List.mem_of_getElem? hx)
      have hlk := HH.out.2.1.look Tryd.underlying9 Tryd.underlying79 (zeroI wr) false x hxs
      rw [got_cnt] at hlk
      obtain ⟨w2, hup, hm2, hg2⟩ := HH.out.2.1.update Tryd.underlying9 Tryd.underlying79 (by unfold maxLen; omega) x hxs ((cnt (xs.take i) x : Int) + 1)
      replace hup : (Instr.mapUpdate 79 (.map (some w.heap.size)) (.string x) (.int .i64 ((cnt (xs.take i) x : Int) + 1))).run Tryd.prog wr = .ok () w2 := hup
      have HM2 : Hid (MapF Tryd.prog intE (i + 1) w2 (some w.heap.size) (cntF (xs.take (i + 1)))) := by
        show MapF _ _ _ _ _ _
        rw [List.take_add_one, hx]
        show MapF _ _ _ _ _ (cntF (_ ++ [x]))
        rw [cntF_snoc]
        exact hm2
      have hlk2 := HM2.out.look Tryd.underlying9 Tryd.underlying79 (zeroI w2) false x hxs
      rw [got_cnt, List.take_add_one, hx] at hlk2
      have hbw : Below w.heap.size w w2 := HH.out.2.2.grown hg2 HH.out.2.2.size (fun k e => by cases e; exact Nat.le_refl _)
      have how := own_other HH.out.1 hg2 (fun r e => by cases e; obtain ⟨es, cl, e⟩ := HH.out.2.1.kind rfl; exact ⟨_, e, rfl⟩)
      have hcn : cnt (xs.take i) x ≤ 1000 := Nat.le_trans (cnt_le _ _) (by rw [List.length_take]; omega)
      have hcs : cnt (List.take i xs ++ (some x).toList) x = cnt (xs.take i) x + 1 := by show cnt (_ ++ [x]) x = _; rw [cnt_snoc, if_pos rfl]
      rw [hcs, Int.natCast_succ] at hlk2
      have HLS := hide (lackTo_succ C xs i x hx)
      have HHas := hide (hasX x w2 (HS.out.1.below hbw) hxs)
      have hlc := lackTo_le C xs i
      obtain ⟨th, hth⟩ : ∃ th, th = ((pc C x).b.toList == []) := ⟨_, rfl⟩
      rw [← hth] at HHas HLS
      clear hth
      generalize cnt (xs.take i) x = n at *
      have hwr : IntKind.i64.wrap ((n : Int) + 1) = n + 1 := Sha.wrap_i64 _ (by omega) (by omega)
      have HN := hide (And.intro hbw (And.intro how hlc))
      have HOS := hide (own_slice how)
      clear hm2 hg2 hcs hx hrd hlc hbw how
      obtain ⟨pa, pc', hpv⟩ := HOS.out
      subst hpv
      clear HOS
      by_cases hn0 : n = 0
      · subst hn0
        replace hlk : (Instr.lookup 79 (.map (some w.heap.size)) (.string x) false).run Tryd.prog wr = .ok (.int .i64 0) wr := hlk
        replace hup : (Instr.mapUpdate 79 (.map (some w.heap.size)) (.string x) (.int .i64 1)).run Tryd.prog wr = .ok () w2 := hup
        replace hlk2 : (Instr.lookup 79 (.map (some w.heap.size)) (.string x) false).run Tryd.prog w2 = .ok (.int .i64 1) w2 := hlk2
        clear hwr hcn
        cases th with
        | true =>
          replace HHas : Hid (Calls Tryd.prog 31 #[.pointer (some ⟨b, 0, none⟩), .string x] w2 fun e w' => e = .returned (.bool false) ∧ w' = w2) := HHas
          go_wp2_with (first
            | (go_at_call 31; refine HHas.out.mono ?_; rintro e w3 ⟨rfl, hw3⟩; subst hw3)
            | (at_builtin; refine wpList_append_own _ rfl _ _ 61 rfl w.heap.size 3 i3 (.int .i64 0) 1 8 Tryd.underlying61 hi3 hz0 hz1 hz2 rfl (by decide) _ _ _ rfl (HN.out.2.1.alloc _) ⟨w3.heap.size, 0, none⟩ 1 1 [.int .i64 i] rfl rfl (cell_one_new _ _ _) ?a2 ?a3 ?a4 ?a5 ?_))
          case a2 => intro u hu; simp at hu; subst hu; rfl
          case a3 => have := HN.out.2.2; unfold maxLen; omega
          case a4 => have := HN.out.2.2; omega
          case a5 => have h1 := HN.out.1.size; simp; omega
          intro v' w4 hown hgrow _
          have H3 : Hid (w4.ownsRow w.heap.size 3 1 v' (lackTo C xs (i + 1)).length (nats (lackTo C xs (i + 1))) ∧ MapF Tryd.prog intE (i + 1) w4 (some w.heap.size) (cntF (xs.take (i + 1))) ∧ Below w.heap.size w w4) := by
            have hb := HN.out.1
            have hb1 := hb.alloc hb.size (.cells #[.int .i64 i] 3)
            refine ⟨?_, ?_, hb1.grown hgrow hb1.size fun k e => (HN.out.2.1.lt _ e).1⟩
            · rw [HLS.out, if_pos (by rfl), List.length_append]
              unfold nats at hown ⊢
              rw [List.map_append]
              exact hown
            · refine HM2.out.kept fun y e => ?_
              have hlt2 := HM2.out.lt e
              refine (hgrow.block y (by simp; omega) fun e2 => ?_).trans (Below.heap_alloc _ _ _ hlt2)
              obtain ⟨es, cl, e3⟩ := HM2.out.kind e
              obtain ⟨cs, hcs⟩ := own_isrow HN.out.2.1 e2.symm
              rw [e3] at hcs
              cases hcs
          obtain ⟨va, vc, rfl⟩ := own_slice hown
          clear hown hgrow
          go_wp2_with fail
          go_roundw
          case rel => exact ⟨i + 1, by omega, by go_num, H3.out⟩
          case measure => simp [intOf]; omega
        | false =>
          replace HHas : Hid (Calls Tryd.prog 31 #[.pointer (some ⟨b, 0, none⟩), .string x] w2 fun e w' => e = .returned (.bool true) ∧ w' = w2) := HHas
          go_wp2_with (go_at_call 31; refine HHas.out.mono ?_; rintro e w3 ⟨rfl, hw3⟩; subst hw3)
          go_roundw
          case rel =>
            refine ⟨i + 1, by omega, by go_num, ?_, HM2.out, HN.out.1⟩
            rw [HLS.out, if_neg (by simp), List.append_nil]
            exact HN.out.2.1
          case measure => simp [intOf]; omega
      · have hn1 : ¬ ((n : Int) + 1 = 1) := by omega
        go_wp2_with fail
        go_roundw
        case rel =>
          refine ⟨i + 1, by omega, by go_num, ?_, HM2.out, HN.out.1⟩
          rw [HLS.out, if_neg (by simp [hn0]), List.append_nil]
          exact HN.out.2.1
        case measure => simp [intOf]; omega
    · have hlt' : ¬ ((i : Int) < xs.length) := by omega
      have hin : i = xs.length := by omega
      subst hin
      go_wp2_with fail
      go_ret
      exact ⟨_, rfl, HH.out.1, HH.out.2.2⟩
end Go.Proofs.YtigkemkebceacaaDoor
