/- Several texts in one: NameRow, NameFold, NameFix, NameMem. -/
import Derived.Test.YtnbhchdaobimmaaGreatDoorRunAL
import Derived.Lib.MinMax
import Derived.Deep.CutBlock
import Derived.Deep.DeepCutAuto
/- A row of bytes that a call has made: a byte of it read and set; []byte(s) and string(b), the row told by its place; bytes small and fixed up to a place; of no program. -/
namespace Go.ByteRow
open Go.RowKit Go.Sha
/-- b[m] = d. -/
theorem Has.set {base g n cap m : Nat} {w : World} {l : List UInt8} {d : UInt8} (h : Has base w (.slice (some ⟨g, 0, none⟩) n cap) l) (hm : m < l.length) : Has base (w.setCell ⟨g, m, none⟩ (.int .u8 d.toNat)) (.slice (some ⟨g, 0, none⟩) n cap) (l.set m d) := by
  rcases h with ⟨h, _⟩ | ⟨g', cap', h1, h2, h3, h4, h5, h6⟩
  · cases h
  · simp only [Value.slice.injEq, Option.some.injEq, Addr.mk.injEq] at h1
    obtain ⟨⟨rfl, -, -⟩, hn, rfl⟩ := h1
    refine .inr ⟨g, cap, by simp [hn], h2, by simpa [World.setCell] using h3, by rw [List.length_set]; exact h4, fun j c hj => ?_, fun j hj => ?_⟩
    · by_cases e : j = m
      · subst e
        rw [List.getElem?_set_self hm] at hj
        cases hj
        obtain ⟨u, hu⟩ := Option.isSome_iff_exists.1 (h6 j (by omega)).1
        exact World.cell?_setCell_same w _ _ hu
      · rw [List.getElem?_set_ne (fun e2 => e e2.symm)] at hj
        rw [World.cell?_setCell_other w _ _ _ (by intro e2; simp only [Addr.mk.injEq, true_and, and_true] at e2; exact e e2.symm)]
        exact h5 j c hj
    · refine ⟨?_, by rw [World.frozen?_setCell]; exact (h6 j hj).2⟩
      obtain ⟨u, hu⟩ := Option.isSome_iff_exists.1 (h6 j hj).1
      obtain ⟨u', hu'⟩ := cell?_setCell_some (p := ⟨g, m, none⟩) (x := .int .u8 d.toNat) hu
      rw [hu']; rfl
theorem Has.cell {base g n cap m : Nat} {w : World} {l : List UInt8} {d : UInt8} (h : Has base w (.slice (some ⟨g, 0, none⟩) n cap) l) (hm : l[m]? = some d) : w.cell? ⟨g, m, none⟩ = some (.int .u8 d.toNat) ∧ w.frozen? ⟨g, m, none⟩ = false ∧ base ≤ g := by
  have hl := (List.getElem?_eq_some_iff.1 hm).1
  rcases h with ⟨h, _⟩ | ⟨g', cap', h1, h2, h3, h4, h5, h6⟩
  · cases h
  · simp only [Value.slice.injEq, Option.some.injEq, Addr.mk.injEq] at h1
    obtain ⟨⟨rfl, -, -⟩, hn, rfl⟩ := h1
    exact ⟨h5 m d hm, (h6 m (by omega)).2, h2⟩
/-- []byte(s), with the place of its row. -/
theorem of_string_at {P : Program} (w : World) {ops : Array Oper} {rest : List Oper} {o : Oper} {a : Act} {Q : Exit → Act → World → Prop}
    (hg : o.guard = none) (src dst e : TypeId) (x : Operand) (hop : o.op = .convert src dst x) (s : ByteArray) (hx : a.eval x = .string s)
    (hs : P.underlying src = some .string) (hd : P.underlying dst = some (.slice e)) (he : P.underlying e = some (.int .u8))
    (k : ∀ g cap w', Has w.heap.size w' (.slice (some ⟨g, 0, none⟩) s.size cap) s.data.toList → Below w.heap.size w w' → wpList P ops Q rest (a.put o.dst (.slice (some ⟨g, 0, none⟩) s.size cap)) w') : wpList P ops Q (o :: rest) a w := by
  have hh0 : ∀ ob, (w.drew.alloc ob).heap[w.heap.size]? = some ob := fun ob => heap_alloc_new w.drew ob
  refine wpList_plain hg fun K hK => ?_
  unfold Oper.wp execOp
  simp only [hop, hx, Sem.run_bind, run_bytes_of_string w src dst e s hs hd he, Result.andThen_ok]
  refine hK _ _ (k _ (grownCap w s.size 0 e) _ (.inr ⟨w.heap.size, grownCap w s.size 0 e, by simp, Nat.le_refl _, by simp, ?_, fun j c hj => ?_, fun j hj => ?_⟩) ?_)
  · simpa using grownCap_ge w s.size 0 e
  · have hjl : j < s.size := by have := (List.getElem?_eq_some_iff.1 hj).1; simpa using this
    rw [cell_of_row _ _ _ _ _ _ (hh0 _)]
    rw [bytesRow, Array.getElem?_append_left (by simpa using hjl), Array.getElem?_map, ← Array.getElem?_toList, hj]
    rfl
  · have hge := grownCap_ge w s.size 0 e
    refine ⟨?_, ?_⟩
    · rw [cell_of_row _ _ _ _ _ _ (hh0 _), Array.getElem?_eq_getElem (by simp [bytesRow]; have : s.data.size = s.size := rfl; omega)]
      rfl
    · have hz : (bytesRow s (grownCap w s.size 0 e)).size = grownCap w s.size 0 e := by simp [bytesRow]; have : s.data.size = s.size := rfl; omega
      rw [hz]
      have hh : (w.drew.alloc (.cells (bytesRow s (grownCap w s.size 0 e)) e (grownCap w s.size 0 e, grownCap w s.size 0 e + 1))).heap[w.heap.size]? = some (.cells (bytesRow s (grownCap w s.size 0 e)) e (grownCap w s.size 0 e, grownCap w s.size 0 e + 1)) := heap_alloc_new w.drew _
      simp only [World.frozen?, hh]
      simp
      omega
  · exact ((Below.refl _ _).drew).alloc (Nat.le_refl _) _
/-- string(b), of a row that may be empty. -/
theorem to_string_at {P : Program} (w : World) {ops : Array Oper} {rest : List Oper} {o : Oper} {a : Act} {Q : Exit → Act → World → Prop}
    (hg : o.guard = none) (src dst e : TypeId) (x : Operand) (hop : o.op = .convert src dst x) {base g n c : Nat} (l : List UInt8) (hn : n = l.length) (hx : a.eval x = .slice (some ⟨g, 0, none⟩) n c) (hh : Has base w (.slice (some ⟨g, 0, none⟩) n c) l)
    (hs : P.underlying src = some (.slice e)) (he : P.underlying e = some (.int .u8)) (hd : P.underlying dst = some .string)
    (k : wpList P ops Q rest (a.put o.dst (.string ⟨l.toArray⟩)) w) : wpList P ops Q (o :: rest) a w := by
  subst hn
  have hcell : ∀ j (hj : j < l.length), w.cell? ⟨g, j, none⟩ = some (Sha.byteV l[j]) := fun j hj => by
    rcases hh with ⟨h, _⟩ | ⟨g', cap, hv, _, _, _, hc, _⟩
    · cases h
    · cases hv; exact hc j _ (List.getElem?_eq_getElem hj)
  have hadd : ∀ j, (⟨g, 0, none⟩ : Addr).add j = ⟨g, j, none⟩ := fun j => by unfold Addr.add; split <;> simp_all
  have hr := run_convert_bytes_back (P := P) w src dst e ⟨g, 0, none⟩ c l hs he hd (fun j hj => by rw [hadd]; exact hcell j hj)
  refine wpList_plain hg fun K hK => ?_
  unfold Oper.wp execOp
  simp only [hop, hx, Sem.run_bind, hr, Result.andThen_ok]
  exact hK _ _ k
theorem news_one (w : World) (c : UInt8) (u : Value) (t : TypeId) (hu : u = byteV c) : ∀ j x, ([c].map byteV)[j]? = some x → (w.alloc (.cells #[u] t)).cell? ((⟨w.heap.size, 0, none⟩ : Addr).add j) = some x := by
  intro j x hj
  subst hu
  match j, hj with
  | 0, hj => simp at hj; subst hj; simp [Addr.add]
/-- append(b, d) onto such a row, the byte laid ahead of it. -/
theorem append_one {P : Program} {w : World} {ops : Array Oper} {rest : List Oper} {o : Oper} {a : Act} {Q : Exit → Act → World → Prop}
    (hg : o.guard = none) (s x : Operand) (t : TypeId) (hop : o.op = Op.call { callee := Callee.builtin Builtin.append, args := #[s, x], argTypes := #[t, t] })
    (e : TypeId) (i : TypeInfo) (h1 : P.underlying t = some (.slice e)) (h2 : P.info? e = some i) (h3 : i.zero = some (.int .u8 0)) (h4 : i.size = 1) (h5 : i.bytes = 1)
    {W0 : World} {k c g : Nat} {L : List UInt8} (d : UInt8) {u : Value} {tt : TypeId} (hs : a.eval s = .slice (some ⟨g, 0, none⟩) k c) (hL : L.length = k) (hh : Has W0.heap.size w (.slice (some ⟨g, 0, none⟩) k c) L ∧ Below W0.heap.size W0 w)
    (hx : a.eval x = .slice (some ⟨w.heap.size, 0, none⟩) 1 1) (hu : u = byteV d) (hlen : k ≤ 1000000)
    (K : ∀ g' c' w1, Has W0.heap.size w1 (.slice (some ⟨g', 0, none⟩) (k + 1) c') (L ++ [d]) ∧ Below W0.heap.size W0 w1 → wpList P ops Q rest (a.put o.dst (.slice (some ⟨g', 0, none⟩) (k + 1) c')) w1) :
    wpList P ops Q (o :: rest) a (w.alloc (.cells #[u] tt)) := by
  have hsz := hh.2.size
  refine append _ hg s x t hop e i h1 h2 h3 h4 h5 W0.heap.size _ L hs (hh.1.alloc _) (by simp; omega) ⟨w.heap.size, 0, none⟩ 1 1 [d] hx rfl (news_one _ _ _ _ hu) (by rw [hL]; simp; omega) ?_
  intro v' w1 hown hgrow
  obtain ⟨g', c', rfl, _⟩ := hown.form (by simp)
  have e1 : (L ++ [d]).length = k + 1 := by rw [List.length_append, hL]; rfl
  rw [e1] at hown ⊢
  exact K g' c' w1 ⟨hown, (hh.2.alloc hsz _).trans hgrow⟩
end Go.ByteRow
namespace Go.Names
/-- The first k bytes turned, the others as they are. -/
def upTo (f : UInt8 → UInt8) (l : Bs) (k : Nat) : Bs := (l.take k).map f ++ l.drop k
theorem upTo_zero (f : UInt8 → UInt8) (l : Bs) : upTo f l 0 = l := by simp [upTo]
theorem upTo_length (f : UInt8 → UInt8) (l : Bs) (k : Nat) : (upTo f l k).length = l.length := by
  unfold upTo
  rw [List.length_append, List.length_map, List.length_take, List.length_drop]
  omega
theorem upTo_all (f : UInt8 → UInt8) (l : Bs) {k : Nat} (h : l.length ≤ k) : upTo f l k = l.map f := by
  unfold upTo
  rw [List.take_of_length_le h, List.drop_eq_nil_iff.2 h, List.append_nil]
theorem upTo_at (f : UInt8 → UInt8) (l : Bs) {k : Nat} {c : UInt8} (h : l[k]? = some c) : (upTo f l k)[k]? = some c := by
  have hl := (List.getElem?_eq_some_iff.1 h).1
  unfold upTo
  rw [List.getElem?_append_right (by rw [List.length_map, List.length_take]; omega), List.length_map, List.length_take, List.getElem?_drop]
  rw [show k + (k - min k l.length) = k by omega]
  exact h
theorem upTo_succ (f : UInt8 → UInt8) (l : Bs) {k : Nat} {c : UInt8} (h : l[k]? = some c) : (upTo f l k).set k (f c) = upTo f l (k + 1) := by
  have hl := (List.getElem?_eq_some_iff.1 h).1
  have hd : l.drop k = c :: l.drop (k + 1) := by
    rw [List.drop_eq_getElem_cons hl]
    congr 1
    rw [List.getElem?_eq_getElem hl] at h
    exact Option.some.inj h
  unfold upTo
  have hlen : ((l.take k).map f).length = k := by rw [List.length_map, List.length_take]; omega
  rw [List.set_append_right _ _ (by omega), hlen, Nat.sub_self, hd, List.set_cons_zero, List.take_add_one, h]
  simp
theorem upTo_same (f : UInt8 → UInt8) (l : Bs) {k : Nat} {c : UInt8} (h : l[k]? = some c) (hf : f c = c) : upTo f l k = upTo f l (k + 1) := by
  rw [← upTo_succ f l h, hf]
  have := upTo_at f l h
  have hl := (List.getElem?_eq_some_iff.1 this).1
  rw [List.getElem?_eq_getElem hl] at this
  rw [← Option.some.inj this, List.set_getElem_self]
end Go.Names
/- Contracts: a text with small letters, the program's and the document's. -/
namespace Go.Names
theorem low_up {c : UInt8} (h1 : 65 ≤ c.toNat) (h2 : c.toNat ≤ 90) : (low c).toNat = c.toNat + 32 := by
  unfold low
  rw [if_pos ⟨h1, h2⟩, UInt8.toNat_add]
  show (c.toNat + 32) % 256 = _
  omega
theorem low_lo {c : UInt8} (h : c.toNat < 65) : low c = c := by unfold low; rw [if_neg (by omega)]
theorem low_hi {c : UInt8} (h : 90 < c.toNat) : low c = c := by unfold low; rw [if_neg (by omega)]
end Go.Names
namespace Go.Proofs.YtnbhchdaobimmaaGreatDoor
open Go.RowKit Go.Shelf Go.Names
set_option maxRecDepth 100000 in
theorem nInfo5 : (Tryz.prog.info? 5).map (fun i => (i.zero, i.size, i.bytes)) = some (some (.int .u8 0), 1, 1) := by kernel_rfl
set_option maxRecDepth 100000 in
theorem nUnderB : Tryz.prog.underlying 65 = some (.slice 5) := by kernel_rfl
set_option maxRecDepth 100000 in
theorem nUnder5 : Tryz.prog.underlying 5 = some (.int .u8) := by kernel_rfl
set_option maxRecDepth 100000 in
theorem nUnder9 : Tryz.prog.underlying 9 = some .string := by kernel_rfl
set_option maxRecDepth 100000 in
set_option maxHeartbeats 1000000 in
theorem fold_any (s : ByteArray) (w : World) (hs : s.size ≤ 1000000) :
    Calls Tryz.prog 138 #[.string s] w fun e w' => e = .returned (.string ⟨(fold s.data.toList).toArray⟩) ∧ Below w.heap.size w w' := by
  go_enter Tryz.func138, Tryz.ntmps138
  go_wp2_with (refine ByteRow.of_string_at _ rfl 9 65 5 _ rfl s rfl nUnder9 nUnderB nUnder5 ?_)
  intro g cap w1 hh hb
  have HB := hide (And.intro hh hb)
  clear hh hb
  go_wp2
  go_loopw [10] (fun vi wr => ∃ k : Nat, k ≤ s.size ∧ vi = .int .i64 k ∧ Hid (ByteRow.Has w.heap.size wr (.slice (some ⟨g, 0, none⟩) s.size cap) (upTo low s.data.toList k) ∧ Below w.heap.size w wr)) (fun vi _ => s.size - (intOf vi).toNat)
  case atStart => exact ⟨0, Nat.zero_le _, rfl, by show _ ∧ _; rw [upTo_zero]; exact HB.out⟩
  case round =>
    clear HB
    obtain ⟨k, hk, rfl, HH⟩ := hrel
    by_cases hlt : k < s.size
    · have hlt' : (k : Int) < s.size := by omega
      have hget := hide (data_get s k hlt)
      generalize s[k] = c at hget
      obtain ⟨hcell, hfr, hbg⟩ := HH.out.1.cell (upTo_at low _ hget.out)
      by_cases h1 : c.toNat < 65
      · have h1' : ¬ (65 : Int) ≤ c.toNat := by omega
        go_wp2
        go_roundw
        case rel => exact ⟨k + 1, by omega, by go_num, by show _ ∧ _; rw [← upTo_same low _ hget.out (low_lo h1)]; exact HH.out⟩
        case measure => simp [intOf]; omega
      · have h1' : (65 : Int) ≤ c.toNat := by omega
        by_cases h2 : 90 < c.toNat
        · have h2' : ¬ (c.toNat : Int) ≤ 90 := by omega
          go_wp2
          go_roundw
          case rel => exact ⟨k + 1, by omega, by go_num, by show _ ∧ _; rw [← upTo_same low _ hget.out (low_hi h2)]; exact HH.out⟩
          case measure => simp [intOf]; omega
        · have h2' : (c.toNat : Int) ≤ 90 := by omega
          have hl := hide (low_up (c := c) (by omega) (by omega))
          go_wp2
          go_roundw
          case rel =>
            refine ⟨k + 1, by omega, by go_num, ?_⟩
            show _ ∧ _
            have e : (.int .u8 ((c.toNat : Int) - 65 + 97) : Value) = .int .u8 ((low c).toNat : Int) := by rw [hl.out]; congr 1; omega
            rw [e, ← upTo_succ low _ hget.out]
            exact ⟨HH.out.1.set (by rw [upTo_length]; simpa using hlt), HH.out.2.setCell hbg _⟩
          case measure => simp [intOf]; omega
    · have hks : k = s.size := by omega
      have hlt' : ¬ (k : Int) < s.size := by omega
      have HF : Hid (ByteRow.Has w.heap.size wr (.slice (some ⟨g, 0, none⟩) s.size cap) (fold s.data.toList) ∧ Below w.heap.size w wr) := by
        have := HH.out
        rw [upTo_all _ _ (by simp; omega)] at this
        exact this
      clear HH
      go_wp2_with (refine ByteRow.to_string_at _ rfl 65 9 5 _ rfl (fold s.data.toList) (by rw [fold_length]; simp) rfl HF.out.1 nUnderB nUnder5 nUnder9 ?_)
      go_ret
      exact ⟨rfl, HF.out.2⟩
end Go.Proofs.YtnbhchdaobimmaaGreatDoor
/- Contracts: a name that may be, made of any text: the program's and the document's. -/
namespace Go.Names
/-- What is fixed, byte by byte. -/
def pre (l : Bs) : Bs := if l = [] then [95] else l.take 32
theorem fix_pre (l : Bs) : fix l = fixN (pre l) := by
  unfold fix pre
  split
  · decide
  · rfl
theorem pre_ne (l : Bs) : pre l ≠ [] := by
  unfold pre
  split
  · decide
  · exact take_ne (by assumption)
theorem pre_length (l : Bs) : 1 ≤ (pre l).length ∧ (pre l).length ≤ 32 := by
  have := List.length_pos_iff.2 (pre_ne l)
  refine ⟨this, ?_⟩
  unfold pre
  split
  · decide
  · rw [List.length_take]; omega
theorem fixN_set (R : Bs) {k : Nat} {c : UInt8} (hk : R[k]? = some c) (hn : R.length = k + 1) : fixN R = (R.map fixB).set k (fixL c) := by
  have h : R ≠ [] := fun e => by subst e; cases hk
  obtain ⟨a, d, rfl⟩ := snoc_of h
  have hl : a.length = k := by simpa using hn
  subst hl
  have hd : d = c := by simpa using hk
  subst hd
  rw [fixN_snoc, List.map_append, List.set_append_right _ _ (by simp)]
  simp
theorem fixN_keep (R : Bs) {k : Nat} {c : UInt8} (hk : R[k]? = some c) (hn : R.length = k + 1) (hc : fixB c ≠ 46) : fixN R = R.map fixB := by
  have hL : fixL c = fixB c := by unfold fixL; rw [if_neg hc]
  rw [fixN_set R hk hn, hL]
  have hm : (R.map fixB)[k]? = some (fixB c) := by rw [List.getElem?_map, hk]; rfl
  have hl := (List.getElem?_eq_some_iff.1 hm).1
  rw [List.getElem?_eq_getElem hl] at hm
  rw [← Option.some.inj hm, List.set_getElem_self]
theorem fixL_46 {c : UInt8} (h : fixB c = 46) : fixL c = 95 := by unfold fixL; rw [if_pos h]
theorem fixN_length (R : Bs) : (fixN R).length = R.length := by
  by_cases h : R = []
  · subst h; rfl
  · obtain ⟨a, c, rfl⟩ := snoc_of h
    rw [fixN_snoc]
    simp
theorem cut_data (s : ByteArray) (n : Nat) : (s.extract 0 n).data.toList = s.data.toList.take n := by
  rw [ByteArray.data_extract, Array.toList_extract]
  simp
/-- What the document has put together up to a place. -/
def outAt (T : Bs) (k : Nat) : Bs := if k = T.length then fixN T else (T.take k).map fixB
end Go.Names
namespace Go.Proofs.YtnbhchdaobimmaaGreatDoor
open Go.RowKit Go.Shelf Go.Names
set_option maxRecDepth 100000 in
set_option maxHeartbeats 1000000 in
theorem fix_any (s : ByteArray) (w : World) (hs : s.size ≤ 1000000) :
    Calls Tryz.prog 88 #[.string s] w fun e w' => e = .returned (.string ⟨(fix s.data.toList).toArray⟩) ∧ Below w.heap.size w w' := by
  obtain ⟨i5, hi, hz0, hz1, hz2⟩ := info_parts nInfo5
  obtain ⟨m, hm⟩ : ∃ m, m = min s.size 32 := ⟨_, rfl⟩
  have hmi : min (s.size : Int) 32 = m := by omega
  have hmin : ∀ w, (Builtin.min_ #[3, 3] 3 #[.int .i64 (s.size : Int), .int .i64 32]).run Tryz.prog w = .ok (.int .i64 m) w := fun w => by
    rw [Lib.run_min_ints, hmi]
  have hm1 : (m : Int) ≤ s.size := by omega
  obtain ⟨t, ht⟩ : ∃ t, s.extract 0 m = t := ⟨_, rfl⟩
  have htd : t.data.toList = s.data.toList.take 32 := by
    rw [← ht, cut_data, hm]
    by_cases h : s.size ≤ 32
    · rw [List.take_of_length_le (by simp; omega), List.take_of_length_le (by simp; omega)]
    · rw [show min s.size 32 = 32 by omega]
  have hts : t.size = m := by rw [← ht, ByteArray.size_extract]; omega
  replace ht := hide ht
  have hpl := pre_length s.data.toList
  have hpre : Hid (pre s.data.toList = if t.size = 0 then [95] else t.data.toList) := by
    show _ = _
    unfold pre
    rw [hts, htd, hm]
    by_cases h : s.size = 0
    · rw [if_pos (by rw [← List.length_eq_zero_iff]; simpa using h), if_pos (by omega)]
    · rw [if_neg (by rw [← List.length_eq_zero_iff]; simpa using h), if_neg (by omega)]
  rw [fix_pre]
  generalize pre s.data.toList = R at hpre hpl
  have htl : Hid (t.data.toList.length = t.size) := by show _ = _; simp
  clear htd
  replace hm := hide hm
  replace hts := hide hts
  clear hmi
  go_enter Tryz.func88, Tryz.ntmps88
  go_upto_if 15 with (refine ByteRow.of_string_at _ rfl 9 65 5 _ rfl t (by show Value.string _ = _; rw [ht.out]) nUnder9 nUnderB nUnder5 ?_
                      intro g cap w1 hh hb
                      have HB := hide (And.intro hh hb)
                      clear hh hb)
  go_cut [3] (fun v wx => ∃ g c n, v = .slice (some ⟨g, 0, none⟩) n c ∧ n = R.length ∧ Hid (ByteRow.Has w.heap.size wx (.slice (some ⟨g, 0, none⟩) n c) R ∧ Below w.heap.size w wx))
  case first =>
    by_cases h0 : t.size = 0
    · have h0' : (t.size : Int) = 0 := by omega
      have h0b : ((t.size : Int) == 0) = true := by rw [h0']; rfl
      have hR : R = [95] := by rw [hpre.out, if_pos h0]
      have hE : t.data.toList = [] := List.length_eq_zero_iff.1 (by rw [htl.out, h0])
      rw [h0, hE] at HB
      go_wp2_with (at_builtin; refine ByteRow.append_one rfl _ _ 65 rfl 5 i5 nUnderB hi hz0 hz1 hz2 95 (k := 0) (by show Value.slice _ _ _ = _; rw [h0]) rfl HB.out rfl rfl (by omega) ?_
                   intro g' c' w1 HR
                   replace HR := hide HR)
      go_meet
      case rel => exact ⟨_, _, _, rfl, by rw [hR]; rfl, by rw [hR]; exact HR.out⟩
    · have h0b : ((t.size : Int) == 0) = false := beq_eq_false_iff_ne.2 (by omega)
      have h0' : ¬ (t.size : Int) = 0 := by omega
      have hR : R = t.data.toList := by rw [hpre.out, if_neg h0]
      go_wp2
      go_meet
      case rel => exact ⟨_, _, _, rfl, by rw [hR, htl.out], by rw [hR]; exact HB.out⟩
  case rest =>
    clear HB
    obtain ⟨g, cp, n, rfl, hn, HB⟩ := hcut
    have hn1 : 1 ≤ n := by omega
    have hn2 : n ≤ 32 := by omega
    have hnR := hide hn
    clear hn hpl hpre htl
    go_wp2
    go_loopw [21] (fun vi wr => ∃ k : Nat, k ≤ n ∧ vi = .int .i64 k ∧ Hid (ByteRow.Has w.heap.size wr (.slice (some ⟨g, 0, none⟩) n cp) (upTo fixB R k) ∧ Below w.heap.size w wr)) (fun vi _ => n - (intOf vi).toNat)
    case atStart => exact ⟨0, Nat.zero_le _, rfl, by show _ ∧ _; rw [upTo_zero]; exact HB.out⟩
    case round =>
      clear HB
      obtain ⟨k, hk, rfl, HH⟩ := hrel
      by_cases hlt : k < n
      · have hlt' : (k : Int) < n := by omega
        obtain ⟨c, hget⟩ : ∃ c, R[k]? = some c := ⟨_, List.getElem?_eq_getElem (by rw [← hnR.out]; exact hlt)⟩
        replace hget := hide hget
        obtain ⟨hcell, hfr, hbg⟩ := HH.out.1.cell (upTo_at fixB _ hget.out)
        have hst := stands_any c wr
        by_cases hc : okB c = true
        · rw [hc] at hst
          go_wp2_with (go_at_call 116; refine hst.mono ?_; rintro e w1 ⟨rfl, rfl⟩)
          go_roundw
          case rel => exact ⟨k + 1, by omega, by go_num, by show _ ∧ _; rw [← upTo_same fixB _ hget.out (fixB_id hc)]; exact HH.out⟩
          case measure => simp [intOf]; omega
        · have hc' : okB c = false := by simpa using hc
          rw [hc'] at hst
          go_wp2_with (go_at_call 116; refine hst.mono ?_; rintro e w1 ⟨rfl, rfl⟩)
          go_roundw
          case rel =>
            refine ⟨k + 1, by omega, by go_num, ?_⟩
            show _ ∧ _
            have e : fixB c = 95 := by unfold fixB; rw [if_neg hc]
            have h9 := HH.out.1.set (m := k) (d := 95) (by rw [upTo_length, ← hnR.out]; exact hlt)
            rw [← e, upTo_succ fixB _ hget.out] at h9
            rw [e] at h9
            exact ⟨h9, HH.out.2.setCell hbg _⟩
          case measure => simp [intOf]; omega
      · have hks : k = n := by omega
        have hlt' : ¬ (k : Int) < n := by omega
        have HF : Hid (ByteRow.Has w.heap.size wr (.slice (some ⟨g, 0, none⟩) n cp) (R.map fixB) ∧ Below w.heap.size w wr) := by
          have := HH.out
          rw [upTo_all _ _ (by rw [← hnR.out]; omega)] at this
          exact this
        clear HH
        obtain ⟨c, hget⟩ : ∃ c, R[n - 1]? = some c := ⟨_, List.getElem?_eq_getElem (by rw [← hnR.out]; omega)⟩
        have hm9 : (R.map fixB)[n - 1]? = some (fixB c) := by rw [List.getElem?_map, hget]; rfl
        obtain ⟨hcell, hfr, hbg⟩ := HF.out.1.cell hm9
        have hlen : R.length = n - 1 + 1 := by rw [← hnR.out]; omega
        replace hm9 := hide hm9
        replace hget := hide hget
        replace hlen := hide hlen
        subst hks
        by_cases hd : fixB c = 46
        · have hset := hide (fixN_set R hget.out hlen.out)
          have hL := hide (fixL_46 hd)
          rw [hd] at hcell
          have hcell' : wr.cell? ⟨g, k - 1, none⟩ = some (.int .u8 46) := hcell
          clear hcell
          have HS : Hid (ByteRow.Has w.heap.size (wr.setCell ⟨g, k - 1, none⟩ (.int .u8 95)) (.slice (some ⟨g, 0, none⟩) k cp) (fixN R) ∧ Below w.heap.size w (wr.setCell ⟨g, k - 1, none⟩ (.int .u8 95))) := by
            have h9 := HF.out.1.set (m := k - 1) (d := 95) (by rw [List.length_map, ← hnR.out]; omega)
            have h8 := hset.out
            rw [hL.out] at h8
            rw [← h8] at h9
            exact ⟨h9, HF.out.2.setCell hbg _⟩
          clear HF
          go_wp2_with (refine ByteRow.to_string_at _ rfl 65 9 5 _ rfl (fixN R) (by rw [fixN_length, ← hnR.out]) rfl HS.out.1 nUnderB nUnder5 nUnder9 ?_)
          go_ret
          exact ⟨rfl, HS.out.2⟩
        · have hkeep := hide (fixN_keep R hget.out hlen.out hd)
          have hd' : (((fixB c).toNat : Int) == 46) = false := beq_eq_false_iff_ne.2 fun h => hd (UInt8.toNat_inj.1 (by rw [show (46 : UInt8).toNat = 46 from rfl]; omega))
          go_wp2_with (refine ByteRow.to_string_at _ rfl 65 9 5 _ rfl (fixN R) (by rw [fixN_length, ← hnR.out]) rfl (by rw [hkeep.out]; exact HF.out.1) nUnderB nUnder5 nUnder9 ?_)
          go_ret
          exact ⟨rfl, HF.out.2⟩
end Go.Proofs.YtnbhchdaobimmaaGreatDoor
/- A folder of names in memory: which are taken, where the numbers of a row go on; what its calls turn. -/
namespace Go.Names
open Go.RowKit
/-- Where a folder lies. -/
structure Fo where
  fb : Nat
  tb : Nat
  nb : Nat
/-- Only the folder's two maps have turned. -/
structure FoTn (F : Fo) (w w' : World) : Prop where
  os : w'.os = w.os
  tape : w'.tape = w.tape
  output : w'.output = w.output
  size : w.heap.size ≤ w'.heap.size
  block : ∀ k, k < w.heap.size → k ≠ F.tb → k ≠ F.nb → w'.heap[k]? = w.heap[k]?
theorem FoTn.trans {F : Fo} {w w' w'' : World} (h : FoTn F w w') (k : FoTn F w' w'') : FoTn F w w'' :=
  ⟨k.os.trans h.os, k.tape.trans h.tape, k.output.trans h.output, Nat.le_trans h.size k.size, fun i hi h1 h2 => (k.block i (Nat.lt_of_lt_of_le hi h.size) h1 h2).trans (h.block i hi h1 h2)⟩
theorem FoTn.of_below {F : Fo} {w w' : World} {B : Nat} (h : Below B w w') (hB : w.heap.size ≤ B) : FoTn F w w' := ⟨h.os, h.tape, h.output, h.size, fun k hk _ _ => h.block k (Nat.lt_of_lt_of_le hk hB)⟩
theorem FoTn.of_taken {F : Fo} {w w' : World} (h : w.grownBy w' (some F.tb)) : FoTn F w w' := ⟨h.os, h.tape, h.output, h.size, fun k hk h1 _ => h.block k hk fun e => h1 (by cases e; rfl)⟩
theorem FoTn.of_next {F : Fo} {w w' : World} (h : w.grownBy w' (some F.nb)) : FoTn F w w' := ⟨h.os, h.tape, h.output, h.size, fun k hk _ h2 => h.block k hk fun e => h2 (by cases e; rfl)⟩
theorem FoTn.below {F : Fo} {w w' : World} {base : Nat} (h : FoTn F w w') (h1 : base ≤ F.tb) (h2 : base ≤ F.nb) (hs : base ≤ w.heap.size) : Below base w w' :=
  ⟨h.os, h.tape, h.output, h.size, fun k hk => h.block k (by omega) (by omega) (by omega)⟩
abbrev Key := ByteArray × Nat
def rowV (x : Key) : Value := .agg #[.string x.1, .int .i64 (x.2 : Int)]
theorem rowV_inj (x y : Key) (h : rowV x = rowV y) : x = y := by
  obtain ⟨a, n⟩ := x
  obtain ⟨b, m⟩ := y
  simp only [rowV, Value.agg.injEq, Array.mk.injEq, List.cons.injEq, Value.string.injEq, Value.int.injEq, true_and, and_true] at h
  obtain ⟨rfl, h⟩ := h
  rw [show n = m by omega]
/-- A text is one of those that are taken. -/
def tkn (T : List Bs) (s : ByteArray) : Option Unit := if s.data.toList ∈ T then some () else none
/-- The numbers of a row that are passed by are taken. -/
def OkN (T : List Bs) (nx : Key → Option Int) : Prop := ∀ c d v, nx (c, d) = some v → (∀ n : Nat, 10 ^ (d - 1) ≤ n → (n : Int) < v → c.data.toList ++ 126 :: dig n ∈ T) ∧ v ≤ (10 : Int) * (10 ^ (d - 1) : Nat)
theorem OkN.none (T : List Bs) : OkN T (fun _ => .none) := fun _ _ _ h => by cases h
theorem OkN.more {T : List Bs} {nx : Key → Option Int} (h : OkN T nx) (x : List Bs) : OkN (T ++ x) nx := fun c d v hv =>
  ⟨fun n h1 h2 => List.mem_append_left _ ((h c d v hv).1 n h1 h2), (h c d v hv).2⟩
theorem OkN.set {T : List Bs} {nx : Key → Option Int} (h : OkN T nx) (c : ByteArray) (d : Nat) (v : Int) (h1 : ∀ n : Nat, 10 ^ (d - 1) ≤ n → (n : Int) < v → c.data.toList ++ 126 :: dig n ∈ T) (h2 : v ≤ (10 : Int) * (10 ^ (d - 1) : Nat)) : OkN T (fun t => if t = (c, d) then some v else nx t) := by
  intro c' d' v' hv
  by_cases e : ((c', d') : Key) = (c, d)
  · simp only [e, if_true] at hv
    cases hv
    cases e
    exact ⟨h1, h2⟩
  · simp only [e, if_false] at hv
    exact h c' d' v' hv
end Go.Names
namespace Go.Proofs.YtnbhchdaobimmaaGreatDoor
open Go.RowKit Go.Names Go.MapFun Go.Maps
set_option maxRecDepth 100000 in
theorem rowUnder : Tryz.prog.underlying 165 = some (.map 208 3) := by kernel_rfl
set_option maxRecDepth 100000 in
theorem tknUnder : Tryz.prog.underlying 164 = some (.map 9 205) := by kernel_rfl
set_option maxRecDepth 100000 in
theorem nLaid : laidOutB Tryz.prog = true := by kernel_rfl
set_option maxRecDepth 100000 in
theorem rowLt : 208 < Tryz.prog.types.size := of_decide_eq_true (by kernel_rfl)
set_option maxRecDepth 100000 in
theorem rowWide : (match Tryz.prog.underlying 208 with | some (.array _ _) | some (.struct _) => true | _ => false) = true := by kernel_rfl
set_option maxRecDepth 100000 in
theorem rowDeep : Tryz.prog.keyTypeAt 3 208 = true := by kernel_rfl
set_option maxRecDepth 100000 in
theorem rowKeyed : Keyed Tryz.prog 208 := Keyed.of_law (deep_law_laid nLaid (m := 3) (by omega) rowLt rowDeep rowWide)
set_option maxRecDepth 100000 in
theorem strKeyed : Keyed Tryz.prog 9 := string_keyed (by kernel_rfl)
set_option maxRecDepth 100000 in
theorem rowCells : Tryz.prog.cellsOf 208 = 2 := by kernel_rfl
set_option maxRecDepth 100000 in
theorem rowType : Tryz.prog.keyType 208 = true := by kernel_rfl
set_option maxRecDepth 100000 in
theorem rowKey (c : ByteArray) (d : Nat) (hc : c.size ≤ maxLen) (hd : d ≤ 1000) : ∃ l, keyOf Tryz.prog 208 (rowV (c, d)) = some l := by
  have hf : (rowV (c, d)).formed Tryz.prog 208 = true := by
    simp [rowV, Value.formed, Tryz.underlying208, rowCells]
  have hsz : Tryz.prog.types.size = 252 := by kernel_rfl
  have hw : (Lit.int .i64 (d : Int)).wf = true := by
    have h1 : IntKind.i64.min = -9223372036854775808 := rfl
    have h2 : IntKind.i64.max = 9223372036854775807 := rfl
    simp only [Lit.wf, h1, h2, Bool.and_eq_true, decide_eq_true_eq]
    omega
  unfold keyOf
  rw [Tryz.underlying208]
  simp only [rowType, hf, Bool.and_self, if_true, hsz]
  have h9 : Tryz.prog.underlying 9 = some .string := by kernel_rfl
  have h3 : Tryz.prog.underlying 3 = some (.int .i64) := by kernel_rfl
  have c9 : Tryz.prog.cellsOf 9 = 1 := by kernel_rfl
  have c3 : Tryz.prog.cellsOf 3 = 1 := by kernel_rfl
  have hcs : (rowV (c, d)).cells.toList = [.string c, .int .i64 (d : Int)] := rfl
  rw [hcs]
  have hk : ∀ m, Tryz.prog.keyLits (m + 2) 208 [.string c, .int .i64 (d : Int)] = some [.string c.data.toList, .int .i64 (d : Int)] := by
    intro m
    simp [Program.keyLits, Tryz.underlying208, rowCells, h9, h3, c9, c3, hw, hc]
  have e : 252 + 1 = (252 - 1) + 2 := rfl
  rw [e, hk]
  exact ⟨_, rfl⟩
end Go.Proofs.YtnbhchdaobimmaaGreatDoor
