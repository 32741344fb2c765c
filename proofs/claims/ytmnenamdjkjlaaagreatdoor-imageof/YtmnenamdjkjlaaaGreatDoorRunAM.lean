/- Several texts in one: NameRow, NameFold. -/
import Derived.Test.YtmnenamdjkjlaaaGreatDoorRunAL
/- A row of bytes that a call has made: a byte of it read and set; []byte(s) and string(b), the row told by its place; bytes small and fixed up to a place; of no program. -/
namespace Go.ByteRow
open Go.RowKit Go.Sha
/-- b[m] = d. -/
theorem Has.set {base g n cap m : Nat} {w : World} {l : List UInt8} {d : UInt8} (h : Has base w (.slice (some ⟨g, 0, none⟩) n cap) l) (hm : m < l.length) : Has base (w.setCell ⟨g, m, none⟩ (.int .u8 d.toNat)) (.slice (some ⟨g, 0, none⟩) n cap) (l.set m d) := by
  rcases h with ⟨h, _⟩ | ⟨g', cap', h1, h2, h3, h4, h5, h6⟩
  · cases h
  · simp only [Value.slice.injEq, Option.some.injEq, Addr.mk.injEq] at h1
    obtain ⟨⟨rfl, -, -⟩, hn, rfl⟩ := h1
    refine .inr ⟨g, cap, by simp [hn], h2, by simpa [World.setCell] using h3, by rw [List.length_set]; exact h4, fun j c hj => ?_, fun j hj => ?_⟩
    · by_cases e : j = m
      · subst e
        rw [List.getElem?_set_self hm] at hj
        cases hj
        obtain ⟨u, hu⟩ := Option.isSome_iff_exists.1 (h6 j (by omega)).1
        exact World.cell?_setCell_same w _ _ hu
      · rw [List.getElem?_set_ne (fun e2 => e e2.symm)] at hj
        rw [World.cell?_setCell_other w _ _ _ (by intro e2; simp only [Addr.mk.injEq, true_and, and_true] at e2; exact e e2.symm)]
        exact h5 j c hj
    · refine ⟨?_, by rw [World.frozen?_setCell]; exact (h6 j hj).2⟩
      obtain ⟨u, hu⟩ := Option.isSome_iff_exists.1 (h6 j hj).1
      obtain ⟨u', hu'⟩ := cell?_setCell_some (p := ⟨g, m, none⟩) (x := .int .u8 d.toNat) hu
      rw [hu']; rfl
theorem Has.cell {base g n cap m : Nat} {w : World} {l : List UInt8} {d : UInt8} (h : Has base w (.slice (some ⟨g, 0, none⟩) n cap) l) (hm : l[m]? = some d) : w.cell? ⟨g, m, none⟩ = some (.int .u8 d.toNat) ∧ w.frozen? ⟨g, m, none⟩ = false ∧ base ≤ g := by
  have hl := (List.getElem?_eq_some_iff.1 hm).1
  rcases h with ⟨h, _⟩ | ⟨g', cap', h1, h2, h3, h4, h5, h6⟩
  · cases h
  · simp only [Value.slice.injEq, Option.some.injEq, Addr.mk.injEq] at h1
    obtain ⟨⟨rfl, -, -⟩, hn, rfl⟩ := h1
    exact ⟨h5 m d hm, (h6 m (by omega)).2, h2⟩
/-- []byte(s), with the place of its row. -/
theorem of_string_at {P : Program} (w : World) {ops : Array Oper} {rest : List Oper} {o : Oper} {a : Act} {Q : Exit → Act → World → Prop}
    (hg : o.guard = none) (src dst e : TypeId) (x : Operand) (hop : o.op = .convert src dst x) (s : ByteArray) (hx : a.eval x = .string s)
    (hs : P.underlying src = some .string) (hd : P.underlying dst = some (.slice e)) (he : P.underlying e = some (.int .u8))
    (k : ∀ g cap w', Has w.heap.size w' (.slice (some ⟨g, 0, none⟩) s.size cap) s.data.toList → Below w.heap.size w w' → wpList P ops Q rest (a.put o.dst (.slice (some ⟨g, 0, none⟩) s.size cap)) w') : wpList P ops Q (o :: rest) a w := by
  have hh0 : ∀ ob, (w.drew.alloc ob).heap[w.heap.size]? = some ob := fun ob => heap_alloc_new w.drew ob
  refine wpList_plain hg fun K hK => ?_
  unfold Oper.wp execOp
  simp only [hop, hx, Sem.run_bind, run_bytes_of_string w src dst e s hs hd he, Result.andThen_ok]
  refine hK _ _ (k _ (grownCap w s.size 0 e) _ (.inr ⟨w.heap.size, grownCap w s.size 0 e, by simp, Nat.le_refl _, by simp, ?_, fun j c hj => ?_, fun j hj => ?_⟩) ?_)
  · simpa using grownCap_ge w s.size 0 e
  · have hjl : j < s.size := by have := (List.getElem?_eq_some_iff.1 hj).1; simpa using this
    rw [cell_of_row _ _ _ _ _ _ (hh0 _)]
    rw [bytesRow, Array.getElem?_append_left (by simpa using hjl), Array.getElem?_map, ← Array.getElem?_toList, hj]
    rfl
  · have hge := grownCap_ge w s.size 0 e
    refine ⟨?_, ?_⟩
    · rw [cell_of_row _ _ _ _ _ _ (hh0 _), Array.getElem?_eq_getElem (by simp [bytesRow]; have : s.data.size = s.size := rfl; omega)]
      rfl
    · have hz : (bytesRow s (grownCap w s.size 0 e)).size = grownCap w s.size 0 e := by simp [bytesRow]; have : s.data.size = s.size := rfl; omega
      rw [hz]
      have hh : (w.drew.alloc (.cells (bytesRow s (grownCap w s.size 0 e)) e (grownCap w s.size 0 e, grownCap w s.size 0 e + 1))).heap[w.heap.size]? = some (.cells (bytesRow s (grownCap w s.size 0 e)) e (grownCap w s.size 0 e, grownCap w s.size 0 e + 1)) := heap_alloc_new w.drew _
      simp only [World.frozen?, hh]
      simp
      omega
  · exact ((Below.refl _ _).drew).alloc (Nat.le_refl _) _
/-- string(b), of a row that may be empty. -/
theorem to_string_at {P : Program} (w : World) {ops : Array Oper} {rest : List Oper} {o : Oper} {a : Act} {Q : Exit → Act → World → Prop}
    (hg : o.guard = none) (src dst e : TypeId) (x : Operand) (hop : o.op = .convert src dst x) {base g n c : Nat} (l : List UInt8) (hn : n = l.length) (hx : a.eval x = .slice (some ⟨g, 0, none⟩) n c) (hh : Has base w (.slice (some ⟨g, 0, none⟩) n c) l)
    (hs : P.underlying src = some (.slice e)) (he : P.underlying e = some (.int .u8)) (hd : P.underlying dst = some .string)
    (k : wpList P ops Q rest (a.put o.dst (.string ⟨l.toArray⟩)) w) : wpList P ops Q (o :: rest) a w := by
  subst hn
  have hcell : ∀ j (hj : j < l.length), w.cell? ⟨g, j, none⟩ = some (Sha.byteV l[j]) := fun j hj => by
    rcases hh with ⟨h, _⟩ | ⟨g', cap, hv, _, _, _, hc, _⟩
    · cases h
    · cases hv; exact hc j _ (List.getElem?_eq_getElem hj)
  have hadd : ∀ j, (⟨g, 0, none⟩ : Addr).add j = ⟨g, j, none⟩ := fun j => by unfold Addr.add; split <;> simp_all
  have hr := run_convert_bytes_back (P := P) w src dst e ⟨g, 0, none⟩ c l hs he hd (fun j hj => by rw [hadd]; exact hcell j hj)
  refine wpList_plain hg fun K hK => ?_
  unfold Oper.wp execOp
  simp only [hop, hx, Sem.run_bind, hr, Result.andThen_ok]
  exact hK _ _ k
theorem news_one (w : World) (c : UInt8) (u : Value) (t : TypeId) (hu : u = byteV c) : ∀ j x, ([c].map byteV)[j]? = some x → (w.alloc (.cells #[u] t)).cell? ((⟨w.heap.size, 0, none⟩ : Addr).add j) = some x := by
  intro j x hj
  subst hu
  match j, hj with
  | 0, hj => simp at hj; subst hj; simp [Addr.add]
/-- append(b, d) onto such a row, the byte laid ahead of it. -/
theorem append_one {P : Program} {w : World} {ops : Array Oper} {rest : List Oper} {o : Oper} {a : Act} {Q : Exit → Act → World → Prop}
    (hg : o.guard = none) (s x : Operand) (t : TypeId) (hop : o.op = Op.call { callee := Callee.builtin Builtin.append, args := #[s, x], argTypes := #[t, t] })
    (e : TypeId) (i : TypeInfo) (h1 : P.underlying t = some (.slice e)) (h2 : P.info? e = some i) (h3 : i.zero = some (.int .u8 0)) (h4 : i.size = 1) (h5 : i.bytes = 1)
    {W0 : World} {k c g : Nat} {L : List UInt8} (d : UInt8) {u : Value} {tt : TypeId} (hs : a.eval s = .slice (some ⟨g, 0, none⟩) k c) (hL : L.length = k) (hh : Has W0.heap.size w (.slice (some ⟨g, 0, none⟩) k c) L ∧ Below W0.heap.size W0 w)
    (hx : a.eval x = .slice (some ⟨w.heap.size, 0, none⟩) 1 1) (hu : u = byteV d) (hlen : k ≤ 1000000)
    (K : ∀ g' c' w1, Has W0.heap.size w1 (.slice (some ⟨g', 0, none⟩) (k + 1) c') (L ++ [d]) ∧ Below W0.heap.size W0 w1 → wpList P ops Q rest (a.put o.dst (.slice (some ⟨g', 0, none⟩) (k + 1) c')) w1) :
    wpList P ops Q (o :: rest) a (w.alloc (.cells #[u] tt)) := by
  have hsz := hh.2.size
  refine append _ hg s x t hop e i h1 h2 h3 h4 h5 W0.heap.size _ L hs (hh.1.alloc _) (by simp; omega) ⟨w.heap.size, 0, none⟩ 1 1 [d] hx rfl (news_one _ _ _ _ hu) (by rw [hL]; simp; omega) ?_
  intro v' w1 hown hgrow
  obtain ⟨g', c', rfl, _⟩ := hown.form (by simp)
  have e1 : (L ++ [d]).length = k + 1 := by rw [List.length_append, hL]; rfl
  rw [e1] at hown ⊢
  exact K g' c' w1 ⟨hown, (hh.2.alloc hsz _).trans hgrow⟩
theorem below_setCell {B g m : Nat} {w w1 : World} {v : Value} (h : Below B w w1) (hg : B ≤ g) : Below B w (w1.setCell ⟨g, m, none⟩ v) := h.setCell hg _
end Go.ByteRow
namespace Go.Names
/-- The first k bytes turned, the others as they are. -/
def upTo (f : UInt8 → UInt8) (l : Bs) (k : Nat) : Bs := (l.take k).map f ++ l.drop k
theorem upTo_zero (f : UInt8 → UInt8) (l : Bs) : upTo f l 0 = l := by simp [upTo]
theorem upTo_length (f : UInt8 → UInt8) (l : Bs) (k : Nat) : (upTo f l k).length = l.length := by
  unfold upTo
  rw [List.length_append, List.length_map, List.length_take, List.length_drop]
  omega
theorem upTo_all (f : UInt8 → UInt8) (l : Bs) {k : Nat} (h : l.length ≤ k) : upTo f l k = l.map f := by
  unfold upTo
  rw [List.take_of_length_le h, List.drop_eq_nil_iff.2 h, List.append_nil]
theorem upTo_at (f : UInt8 → UInt8) (l : Bs) {k : Nat} {c : UInt8} (h : l[k]? = some c) : (upTo f l k)[k]? = some c := by
  have hl := (List.getElem?_eq_some_iff.1 h).1
  unfold upTo
  rw [List.getElem?_append_right (by rw [List.length_map, List.length_take]; omega), List.length_map, List.length_take, List.getElem?_drop]
  rw [show k + (k - min k l.length) = k by omega]
  exact h
theorem upTo_succ (f : UInt8 → UInt8) (l : Bs) {k : Nat} {c : UInt8} (h : l[k]? = some c) : (upTo f l k).set k (f c) = upTo f l (k + 1) := by
  have hl := (List.getElem?_eq_some_iff.1 h).1
  have hd : l.drop k = c :: l.drop (k + 1) := by
    rw [List.drop_eq_getElem_cons hl]
    congr 1
    rw [List.getElem?_eq_getElem hl] at h
    exact Option.some.inj h
  unfold upTo
  have hlen : ((l.take k).map f).length = k := by rw [List.length_map, List.length_take]; omega
  rw [List.set_append_right _ _ (by omega), hlen, Nat.sub_self, hd, List.set_cons_zero, List.take_add_one, h]
  simp
theorem upTo_same (f : UInt8 → UInt8) (l : Bs) {k : Nat} {c : UInt8} (h : l[k]? = some c) (hf : f c = c) : upTo f l k = upTo f l (k + 1) := by
  rw [← upTo_succ f l h, hf]
  have := upTo_at f l h
  have hl := (List.getElem?_eq_some_iff.1 this).1
  rw [List.getElem?_eq_getElem hl] at this
  rw [← Option.some.inj this, List.set_getElem_self]
end Go.Names
/- Contracts: a text with small letters, the program's and the document's. -/
namespace Go.Names
theorem low_up {c : UInt8} (h1 : 65 ≤ c.toNat) (h2 : c.toNat ≤ 90) : (low c).toNat = c.toNat + 32 := by
  unfold low
  rw [if_pos ⟨h1, h2⟩, UInt8.toNat_add]
  show (c.toNat + 32) % 256 = _
  omega
theorem low_lo {c : UInt8} (h : c.toNat < 65) : low c = c := by unfold low; rw [if_neg (by omega)]
theorem low_hi {c : UInt8} (h : 90 < c.toNat) : low c = c := by unfold low; rw [if_neg (by omega)]
theorem up_to {l : Bs} {k : Nat} {c : UInt8} (h : l[k]? = some c) (f : UInt8 → UInt8) : (l.take (k + 1)).map f = (l.take k).map f ++ [f c] := by
  rw [List.take_add_one, h]
  simp
end Go.Names
namespace Go.Proofs.YtmnenamdjkjlaaaGreatDoor
open Go.RowKit Go.Shelf Go.Names
set_option maxRecDepth 100000 in
theorem nInfo5 : (Tryz.prog.info? 5).map (fun i => (i.zero, i.size, i.bytes)) = some (some (.int .u8 0), 1, 1) := by kernel_rfl
set_option maxRecDepth 100000 in
theorem nUnderB : Tryz.prog.underlying 66 = some (.slice 5) := by kernel_rfl
set_option maxRecDepth 100000 in
theorem nUnder5 : Tryz.prog.underlying 5 = some (.int .u8) := by kernel_rfl
set_option maxRecDepth 100000 in
theorem nUnder9 : Tryz.prog.underlying 9 = some .string := by kernel_rfl
set_option maxRecDepth 100000 in
set_option maxHeartbeats 1000000 in
theorem fold_any (s : ByteArray) (w : World) (hs : s.size ≤ 1000000) :
    Calls Tryz.prog 130 #[.string s] w fun e w' => e = .returned (.string ⟨(fold s.data.toList).toArray⟩) ∧ Below w.heap.size w w' := by
  go_enter Tryz.func130, Tryz.ntmps130
  go_wp2_with (refine ByteRow.of_string_at _ rfl 9 66 5 _ rfl s rfl nUnder9 nUnderB nUnder5 ?_)
  intro g cap w1 hh hb
  have HB := hide (And.intro hh hb)
  clear hh hb
  go_wp2
  go_loopw [10] (fun vi wr => ∃ k : Nat, k ≤ s.size ∧ vi = .int .i64 k ∧ Hid (ByteRow.Has w.heap.size wr (.slice (some ⟨g, 0, none⟩) s.size cap) (upTo low s.data.toList k) ∧ Below w.heap.size w wr)) (fun vi _ => s.size - (intOf vi).toNat)
  case atStart => exact ⟨0, Nat.zero_le _, rfl, by show _ ∧ _; rw [upTo_zero]; exact HB.out⟩
  case round =>
    clear HB
    obtain ⟨k, hk, rfl, HH⟩ := hrel
    by_cases hlt : k < s.size
    · have hlt' : (k : Int) < s.size := by omega
      have hget := hide (data_get s k hlt)
      generalize s[k] = c at hget
      obtain ⟨hcell, hfr, hbg⟩ := HH.out.1.cell (upTo_at low _ hget.out)
      by_cases h1 : c.toNat < 65
      · have h1' : ¬ (65 : Int) ≤ c.toNat := by omega
        go_wp2
        go_roundw
        case rel => exact ⟨k + 1, by omega, by go_num, by show _ ∧ _; rw [← upTo_same low _ hget.out (low_lo h1)]; exact HH.out⟩
        case measure => simp [intOf]; omega
      · have h1' : (65 : Int) ≤ c.toNat := by omega
        by_cases h2 : 90 < c.toNat
        · have h2' : ¬ (c.toNat : Int) ≤ 90 := by omega
          go_wp2
          go_roundw
          case rel => exact ⟨k + 1, by omega, by go_num, by show _ ∧ _; rw [← upTo_same low _ hget.out (low_hi h2)]; exact HH.out⟩
          case measure => simp [intOf]; omega
        · have h2' : (c.toNat : Int) ≤ 90 := by omega
          have hl := hide (low_up (c := c) (by omega) (by omega))
          go_wp2
          go_roundw
          case rel =>
            refine ⟨k + 1, by omega, by go_num, ?_⟩
            show _ ∧ _
            have e : (.int .u8 ((c.toNat : Int) - 65 + 97) : Value) = .int .u8 ((low c).toNat : Int) := by rw [hl.out]; congr 1; omega
            rw [e, ← upTo_succ low _ hget.out]
            exact ⟨HH.out.1.set (by rw [upTo_length]; simpa using hlt), HH.out.2.setCell hbg _⟩
          case measure => simp [intOf]; omega
    · have hks : k = s.size := by omega
      have hlt' : ¬ (k : Int) < s.size := by omega
      have HF : Hid (ByteRow.Has w.heap.size wr (.slice (some ⟨g, 0, none⟩) s.size cap) (fold s.data.toList) ∧ Below w.heap.size w wr) := by
        have := HH.out
        rw [upTo_all _ _ (by simp; omega)] at this
        exact this
      clear HH
      go_wp2_with (refine ByteRow.to_string_at _ rfl 66 9 5 _ rfl (fold s.data.toList) (by rw [fold_length]; simp) rfl HF.out.1 nUnderB nUnder5 nUnder9 ?_)
      go_ret
      exact ⟨rfl, HF.out.2⟩
set_option maxRecDepth 100000 in
set_option maxHeartbeats 1000000 in
theorem rfold_any (s : ByteArray) (w : World) (hs : s.size ≤ 1000000) :
    Calls Tryz.prog 12 #[.string s] w fun e w' => e = .returned (.string ⟨(fold s.data.toList).toArray⟩) ∧ Below w.heap.size w w' := by
  obtain ⟨i5, hi, hz0, hz1, hz2⟩ := info_parts nInfo5
  go_enter Tryz.func12, Tryz.ntmps12
  go_wp2
  go_loopw [3, 4] (fun vb vi wr => ∃ (k g c : Nat), k ≤ s.size ∧ vi = .int .i64 k ∧ vb = .slice (some ⟨g, 0, none⟩) k c ∧ Hid (ByteRow.Has w.heap.size wr (.slice (some ⟨g, 0, none⟩) k c) ((s.data.toList.take k).map low) ∧ Below w.heap.size w wr)) (fun _ vi _ => s.size - (intOf vi).toNat)
  case atStart => exact ⟨0, w.heap.size, 0, Nat.zero_le _, rfl, rfl, ByteRow.Has.of_own (World.ownsRow_made w #[] 0 (Nat.le_refl _) (Nat.zero_le _) rfl), (Below.refl _ w).alloc (Nat.le_refl _) _⟩
  case round =>
    obtain ⟨k, g, cp, hk, rfl, rfl, HH⟩ := hrel
    by_cases hlt : k < s.size
    · have hlt' : (k : Int) < s.size := by omega
      have hget := hide (data_get s k hlt)
      have hlen : ((s.data.toList.take k).map low).length = k := by rw [List.length_map, List.length_take]; simp; omega
      replace hlen := hide hlen
      have hnext := hide (up_to hget.out low)
      by_cases h1 : 65 ≤ s[k].toNat ∧ s[k].toNat ≤ 90
      · have h1' : (65 : Int) ≤ s[k].toNat := by omega
        have h2' : (s[k].toNat : Int) ≤ 90 := by omega
        have hl := hide (low_up (c := s[k]) h1.1 h1.2)
        clear h1
        go_wp2_with (at_builtin; refine ByteRow.append_one rfl _ _ 66 rfl 5 i5 nUnderB hi hz0 hz1 hz2 (low s[k]) rfl hlen.out HH.out rfl (by show _ = Value.int .u8 _; rw [hl.out]; rfl) (by omega) ?_
                     intro g' c' w1 HR
                     replace HR := hide HR
                     rw [← hnext.out] at HR)
        go_roundw
        case rel => exact ⟨k + 1, g', c', by omega, by go_num, rfl, HR.out⟩
        case measure => simp [intOf]; omega
      · have hlow : low s[k] = s[k] := by unfold low; rw [if_neg h1]
        replace hlow := hide hlow
        have h3 : (65 : Int) ≤ s[k].toNat → ¬ (s[k].toNat : Int) ≤ 90 := by omega
        by_cases h4 : (65 : Int) ≤ s[k].toNat
        · have h5 := h3 h4
          clear h3 h1
          go_wp2_with (at_builtin; refine ByteRow.append_one rfl _ _ 66 rfl 5 i5 nUnderB hi hz0 hz1 hz2 (low s[k]) rfl hlen.out HH.out rfl (by rw [hlow.out]; rfl) (by omega) ?_
                       intro g' c' w1 HR
                       replace HR := hide HR
                       rw [← hnext.out] at HR)
          go_roundw
          case rel => exact ⟨k + 1, g', c', by omega, by go_num, rfl, HR.out⟩
          case measure => simp [intOf]; omega
        · clear h3 h1
          go_wp2_with (at_builtin; refine ByteRow.append_one rfl _ _ 66 rfl 5 i5 nUnderB hi hz0 hz1 hz2 (low s[k]) rfl hlen.out HH.out rfl (by rw [hlow.out]; rfl) (by omega) ?_
                       intro g' c' w1 HR
                       replace HR := hide HR
                       rw [← hnext.out] at HR)
          go_roundw
          case rel => exact ⟨k + 1, g', c', by omega, by go_num, rfl, HR.out⟩
          case measure => simp [intOf]; omega
    · have hks : k = s.size := by omega
      have hlt' : ¬ (k : Int) < s.size := by omega
      have HF : Hid (ByteRow.Has w.heap.size wr (.slice (some ⟨g, 0, none⟩) k cp) (fold s.data.toList) ∧ Below w.heap.size w wr) := by
        have := HH.out
        rw [List.take_of_length_le (by simp; omega)] at this
        exact this
      clear HH
      go_wp2_with (refine ByteRow.to_string_at _ rfl 66 9 5 _ rfl (fold s.data.toList) (by rw [fold_length]; simp; omega) rfl HF.out.1 nUnderB nUnder5 nUnder9 ?_)
      go_ret
      exact ⟨rfl, HF.out.2⟩
end Go.Proofs.YtmnenamdjkjlaaaGreatDoor
