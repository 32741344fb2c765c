/- A slice of bytes that a call has made, wherever it lies: what it holds, that it may be written up to its capacity; what append does to it; of no program. -/
import Derived.Test.YtknnamanbeckeaaShaMath
import Derived.WalkKit
import Derived.ArgAppend
import Derived.Laws.IdiomStrings
import Derived.Laws.IdiomCopy
import Derived.Deep.MidRow
import Derived.Deep.Draws
namespace Go.ByteRow
open Go.RowKit Go.Sha
/-- The slice value v holds the bytes l; it is nil, or lies at the head of a block from 'base' on, all of whose cells up to the capacity are there and may be written. -/
def Has (base : Nat) (w : World) (v : Value) (l : List UInt8) : Prop :=
  (v = .slice none 0 0 ∧ l = []) ∨
  ∃ g cap, v = .slice (some ⟨g, 0, none⟩) l.length cap ∧ base ≤ g ∧ g < w.heap.size ∧ l.length ≤ cap ∧
    (∀ j c, l[j]? = some c → w.cell? ⟨g, j, none⟩ = some (byteV c)) ∧
    (∀ j, j < cap → (w.cell? ⟨g, j, none⟩).isSome = true ∧ w.frozen? ⟨g, j, none⟩ = false)
theorem Has.nil (base : Nat) (w : World) : Has base w (.slice none 0 0) [] := .inl ⟨rfl, rfl⟩
theorem Has.below {base B : Nat} {w w' : World} {v : Value} {l : List UInt8} (h : Has base w v l) (hb : Below B w w') (hB : w.heap.size ≤ B) : Has base w' v l := by
  rcases h with h | ⟨g, cap, h1, h2, h3, h4, h5, h6⟩
  · exact .inl h
  · refine .inr ⟨g, cap, h1, h2, Nat.lt_of_lt_of_le h3 hb.size, h4, fun j c hj => ?_, fun j hj => ?_⟩
    · rw [hb.cell (p := ⟨g, j, none⟩) (by show g < B; omega)]; exact h5 j c hj
    · rw [hb.cell (p := ⟨g, j, none⟩) (by show g < B; omega), hb.frozen (p := ⟨g, j, none⟩) (by show g < B; omega)]; exact h6 j hj
theorem Has.alloc {base : Nat} {w : World} {v : Value} {l : List UInt8} (h : Has base w v l) (o : Obj) : Has base (w.alloc o) v l :=
  h.below ((Below.refl _ _).alloc (Nat.le_refl _) o) (Nat.le_refl _)
theorem Has.drewN {base : Nat} {w : World} {v : Value} {l : List UInt8} (h : Has base w v l) (n : Nat) : Has base (w.drewN n) v l := h
theorem Has.mono {base base' : Nat} {w : World} {v : Value} {l : List UInt8} (h : Has base w v l) (hb : base' ≤ base) : Has base' w v l := by
  rcases h with h | ⟨g, cap, h1, h2, h3⟩
  · exact .inl h
  · exact .inr ⟨g, cap, h1, Nat.le_trans hb h2, h3⟩
theorem Has.of_own {base e : Nat} {w : World} {v : Value} {n : Nat} {l : List UInt8} (h : w.ownsRow base e 1 v n (l.map byteV)) : Has base w v l := by
  obtain ⟨h0, h1⟩ := h
  have hn : n = l.length := by simpa using h0.symm
  subst hn
  rcases h1 with ⟨h1, h2⟩ | ⟨g, cap, cur, h1, h2, h3, h4, _, h6, h7⟩
  · exact .inl ⟨h1, List.length_eq_zero_iff.1 h2⟩
  · have hlt : g < w.heap.size := by
      rcases Nat.lt_or_ge g w.heap.size with h | h
      · exact h
      · rw [Array.getElem?_eq_none h] at h3; cases h3
    refine .inr ⟨g, cap, h1, h2, hlt, h4, fun j c hj => ?_, fun j hj => ?_⟩
    · have hjl : j < l.length := (List.getElem?_eq_some_iff.1 hj).1
      rw [cell_of_row _ _ _ _ _ _ h3, ← Array.getElem?_toList]
      have : (cur.toList.take (l.length * 1))[j]? = some (byteV c) := by rw [h7, List.getElem?_map, hj]; rfl
      rwa [List.getElem?_take_of_lt (by omega)] at this
    · exact ⟨by rw [cell_of_row _ _ _ _ _ _ h3, Array.getElem?_eq_getElem (by omega)]; rfl, frozen_of_row _ _ _ _ _ h3⟩
theorem Has.length_of {base : Nat} {w : World} {v : Value} {l : List UInt8} (h : Has base w v l) : (∃ a c, v = .slice a l.length c) := by
  rcases h with ⟨h, rfl⟩ | ⟨g, cap, h1, _⟩
  · exact ⟨none, 0, h⟩
  · exact ⟨_, cap, h1⟩
theorem Has.form {base : Nat} {w : World} {v : Value} {l : List UInt8} (h : Has base w v l) (hl : l ≠ []) : ∃ g cap, v = .slice (some ⟨g, 0, none⟩) l.length cap ∧ l.length ≤ cap := by
  rcases h with ⟨_, h⟩ | ⟨g, cap, h1, _, _, h4, _⟩
  · exact absurd h hl
  · exact ⟨g, cap, h1, h4⟩
theorem below_setCells {B b : Nat} (hb : B ≤ b) : ∀ (vs : List Value) (o : Nat) (w w1 : World), Below B w w1 → Below B w (w1.setCells b o vs)
  | [], _, _, _, h => h
  | _ :: vs, o, w, _, h => below_setCells hb vs (o + 1) w _ (h.setCell hb _)
/-- append(b, x...) onto such a slice. -/
theorem append {P : Program} (w : World) {ops : Array Oper} {rest : List Oper} {o : Oper} {a : Act} {Q : Exit → Act → World → Prop}
    (hg : o.guard = none) (s x : Operand) (t : TypeId) (hop : o.op = Op.call { callee := Callee.builtin Builtin.append, args := #[s, x], argTypes := #[t, t] })
    (e : TypeId) (i : TypeInfo) (h1 : P.underlying t = some (.slice e)) (h2 : P.info? e = some i) (h3 : i.zero = some (.int .u8 0)) (h4 : i.size = 1) (h5 : i.bytes = 1)
    (base : Nat) (v : Value) (l : List UInt8) (hs : a.eval s = v) (hh : Has base w v l) (hb : base ≤ w.heap.size)
    (ad : Addr) (m c : Nat) (news : List UInt8) (hx : a.eval x = .slice (some ad) m c) (hm : news.length = m) (hc : ∀ j u, (news.map byteV)[j]? = some u → w.cell? (ad.add j) = some u)
    (hlen : l.length + news.length ≤ 1099511627776)
    (k : ∀ v' w', Has base w' v' (l ++ news) → Below base w w' → wpList P ops Q rest (a.put o.dst v') w') :
    wpList P ops Q (o :: rest) a w := by
  subst hm
  have hone : ∀ u ∈ news.map byteV, u.oneCell' = true := by
    intro u hu
    obtain ⟨q, _, rfl⟩ := List.mem_map.1 hu
    rfl
  rcases hh with ⟨hv, rfl⟩ | ⟨g, cap, hv, hgb, hgl, hcap, hcell, hroom⟩
  · refine wpList_append_own w hg s x t hop base e i (.int .u8 0) 1 1 h1 h2 h3 h4 h5 rfl (by decide) v 0 [] hs (by rw [hv]; exact World.ownsRow_nil _ _ _ _) ad news.length c (news.map byteV) hx (by simp) hc hone (by unfold maxLen; omega) (by omega) hb ?_
    intro v' w' hown hgrow _
    refine k v' w' (Has.of_own (by simpa using hown)) ((Below.refl _ _).grown hgrow hb (fun q hq => by rw [hv] at hq; cases hq))
  · refine wpList_append_arg w hg s x t hop e i (.int .u8 0) 1 1 h1 h2 h3 h4 h5 rfl (by decide) g 0 l.length cap (l.map byteV) (by rw [hs, hv]) (by simp) (fun j u hj => ?_) ad news.length c (news.map byteV) hx (by simp) hc hone (fun hr j hj => ?_) (by unfold maxLen; omega) (by omega) (fun hr => ?_) (fun hr v' w' hown hgrow => ?_)
    · rw [List.getElem?_map] at hj
      cases hq : l[j]? with
      | none => rw [hq] at hj; cases hj
      | some q =>
        rw [hq] at hj
        have : u = byteV q := (Option.some.inj hj).symm
        rw [this, Nat.zero_add]
        exact hcell j q hq
    · have hj' : j < news.length := by simpa using hj
      have := hroom (l.length + j) (by omega)
      simpa using this
    · have hin := World.cell?_setCells_in g (news.map byteV) (0 + l.length * 1) w (fun j hj => by
        have hj' : j < news.length := by simpa using hj
        have := (hroom (l.length + j) (by omega)).1
        simpa using this)
      have hsz : (w.setCells g (0 + l.length * 1) (news.map byteV)).heap.size ≥ w.heap.size := (below_setCells (B := 0) (Nat.zero_le _) (news.map byteV) _ w w (Below.refl _ _)).size
      refine k _ _ (.inr ⟨g, cap, by simp, hgb, Nat.lt_of_lt_of_le hgl hsz, by simp; omega, fun j q hj => ?_, fun j hj => ?_⟩) (below_setCells hgb _ _ _ _ (Below.refl _ _))
      · by_cases hjl : j < l.length
        · rw [World.cell?_setCells_out _ _ _ _ _ (fun _ _ => .inl (by show j < 0 + l.length * 1; omega))]
          exact hcell j q (by rwa [List.getElem?_append_left hjl] at hj)
        · rw [List.getElem?_append_right (by omega)] at hj
          have hjn : j - l.length < news.length := (List.getElem?_eq_some_iff.1 hj).1
          have h9 := hin (j - l.length) (by simpa using hjn)
          rw [show 0 + l.length * 1 + (j - l.length) = j by omega] at h9
          rw [h9]
          rw [List.getElem?_eq_getElem hjn] at hj
          simp [Option.some.inj hj]
      · refine ⟨World.isSome_setCells _ _ _ _ _ (hroom j hj).1, ?_⟩
        rw [World.frozen?_setCells]; exact (hroom j hj).2
    · refine k v' w' ((Has.of_own (by simpa using hown)).mono hb) ((Below.refl _ _).grown hgrow hb (fun q hq => by cases hq))
/-- []byte(s). -/
theorem of_string {P : Program} (w : World) {ops : Array Oper} {rest : List Oper} {o : Oper} {a : Act} {Q : Exit → Act → World → Prop}
    (hg : o.guard = none) (src dst e : TypeId) (x : Operand) (hop : o.op = .convert src dst x) (s : ByteArray) (hx : a.eval x = .string s)
    (hs : P.underlying src = some .string) (hd : P.underlying dst = some (.slice e)) (he : P.underlying e = some (.int .u8))
    (k : ∀ v' w', Has w.heap.size w' v' s.data.toList → Below w.heap.size w w' → wpList P ops Q rest (a.put o.dst v') w') : wpList P ops Q (o :: rest) a w := by
  have hh0 : ∀ ob, (w.drew.alloc ob).heap[w.heap.size]? = some ob := fun ob => heap_alloc_new w.drew ob
  refine wpList_plain hg fun K hK => ?_
  unfold Oper.wp execOp
  simp only [hop, hx, Sem.run_bind, run_bytes_of_string w src dst e s hs hd he, Result.andThen_ok]
  refine hK _ _ (k _ _ (.inr ⟨w.heap.size, grownCap w s.size 0 e, by simp, Nat.le_refl _, by simp, ?_, fun j c hj => ?_, fun j hj => ?_⟩) ?_)
  · simpa using grownCap_ge w s.size 0 e
  · have hjl : j < s.size := by have := (List.getElem?_eq_some_iff.1 hj).1; simpa using this
    rw [cell_of_row _ _ _ _ _ _ (hh0 _)]
    rw [bytesRow, Array.getElem?_append_left (by simpa using hjl), Array.getElem?_map, ← Array.getElem?_toList, hj]
    rfl
  · have hge := grownCap_ge w s.size 0 e
    refine ⟨?_, ?_⟩
    · rw [cell_of_row _ _ _ _ _ _ (hh0 _), Array.getElem?_eq_getElem (by simp [bytesRow]; have : s.data.size = s.size := rfl; omega)]
      rfl
    · have hz : (bytesRow s (grownCap w s.size 0 e)).size = grownCap w s.size 0 e := by simp [bytesRow]; have : s.data.size = s.size := rfl; omega
      rw [hz]
      have hh : (w.drew.alloc (.cells (bytesRow s (grownCap w s.size 0 e)) e (grownCap w s.size 0 e, grownCap w s.size 0 e + 1))).heap[w.heap.size]? = some (.cells (bytesRow s (grownCap w s.size 0 e)) e (grownCap w s.size 0 e, grownCap w s.size 0 e + 1)) := heap_alloc_new w.drew _
      simp only [World.frozen?, hh]
      simp
      omega
  · exact ((Below.refl _ _).drew).alloc (Nat.le_refl _) _
/-- string(b). -/
theorem to_string {P : Program} (w : World) {ops : Array Oper} {rest : List Oper} {o : Oper} {a : Act} {Q : Exit → Act → World → Prop}
    (hg : o.guard = none) (src dst e : TypeId) (x : Operand) (hop : o.op = .convert src dst x) {base : Nat} {v : Value} (l : List UInt8) (hx : a.eval x = v) (hh : Has base w v l) (hl : l ≠ [])
    (hs : P.underlying src = some (.slice e)) (he : P.underlying e = some (.int .u8)) (hd : P.underlying dst = some .string)
    (k : wpList P ops Q rest (a.put o.dst (.string ⟨l.toArray⟩)) w) : wpList P ops Q (o :: rest) a w := by
  rcases hh with ⟨_, h⟩ | ⟨g, cap, hv, _, _, _, hcell, _⟩
  · exact absurd h hl
  · have hadd : ∀ j, (⟨g, 0, none⟩ : Addr).add j = ⟨g, j, none⟩ := fun j => by unfold Addr.add; split <;> simp_all
    have hr := run_convert_bytes_back (P := P) w src dst e ⟨g, 0, none⟩ cap l hs he hd (fun j hj => by rw [hadd]; exact hcell j _ (List.getElem?_eq_getElem hj))
    refine wpList_plain hg fun K hK => ?_
    unfold Oper.wp execOp
    simp only [hop, hx, hv, Sem.run_bind, hr, Result.andThen_ok]
    exact hK _ _ k
/-- b[:n]. -/
theorem Has.front {base : Nat} {w : World} {g n cap : Nat} {l : List UInt8} (h : Has base w (.slice (some ⟨g, 0, none⟩) l.length cap) l) (hn : n ≤ l.length) : Has base w (.slice (some ⟨g, 0, none⟩) n cap) (l.take n) := by
  rcases h with ⟨h, _⟩ | ⟨g', cap', h1, h2, h3, h4, h5, h6⟩
  · cases h
  · simp only [Value.slice.injEq, Option.some.injEq, Addr.mk.injEq] at h1
    obtain ⟨⟨rfl, -, -⟩, -, rfl⟩ := h1
    refine .inr ⟨g, cap, by rw [List.length_take_of_le hn], h2, h3, by rw [List.length_take_of_le hn]; omega, fun j c hj => h5 j c ?_, h6⟩
    by_cases hjn : j < n
    · rwa [List.getElem?_take_of_lt hjn] at hj
    · rw [List.getElem?_eq_none (by rw [List.length_take_of_le hn]; omega)] at hj; cases hj
/-- []byte{c}, as it is laid. -/
theorem Has.one {base : Nat} {w : World} (hb : base ≤ w.heap.size) (c : UInt8) (u : Value) (hu : u = byteV c) (e : TypeId) : Has base (w.alloc (.cells #[u] e)) (.slice (some ⟨w.heap.size, 0, none⟩) 1 1) [c] := by
  subst hu
  have hh := heap_alloc_new w (.cells #[byteV c] e (0, 0))
  refine .inr ⟨w.heap.size, 1, rfl, hb, by simp, Nat.le_refl _, fun j d hj => ?_, fun j hj => ?_⟩
  · match j, hj with
    | 0, hj => simp at hj; subst hj; rw [cell_of_row _ _ _ _ _ _ hh]; rfl
  · match j, hj with
    | 0, _ => exact ⟨by rw [cell_of_row _ _ _ _ _ _ hh]; rfl, frozen_of_row _ _ _ _ _ hh⟩
end Go.ByteRow
