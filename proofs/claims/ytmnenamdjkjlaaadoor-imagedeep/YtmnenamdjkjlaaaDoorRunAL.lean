/- Several texts in one: MapKey, NameShelf, Strs, NameLeaves. -/
import Derived.Test.YtmnenamdjkjlaaaDoorMapAll
import Derived.DeepKeys4
import Derived.Shelf.Small.Strs
import Derived.Shelf.Strings.LastIndex
import Derived.Shelf.Strconv.Itoa3
import Derived.Test.YtmnenamdjkjlaaaDoorRows
import Derived.WalkKit
import Derived.Test.YtmnenamdjkjlaaaDoorRunAA
import Derived.Test.YtmnenamdjkjlaaaDoorNameMath
/- A map with keys of any kind that the library can tell apart, told as a function from what its keys stand for; of no program. -/
namespace Go.MapFun
open Go.RowKit Go.Maps
variable {κ α : Type} {E : Enc α} {P : Program} {k T X N : Nat} {w : World} {b : Nat} {kv : κ → Value} {f : κ → Option α}
/-- Block b is a map that holds f, with at most N entries. -/
def MapG (P : Program) (k : TypeId) (kv : κ → Value) (E : Enc α) (N : Nat) (w : World) (b : Nat) (f : κ → Option α) : Prop :=
  ∃ n D, n ≤ N ∧ w.ownsMap P k E.R b n D ∧ IsMap D ∧ ∀ x l, keyOf P k (kv x) = some l → ∀ z, D.atKey l z = match f x with | some a => E.d a | none => z
theorem MapG.made (P : Program) (k : TypeId) (kv : κ → Value) (E : Enc α) (w : World) : MapG P k kv E 0 (w.alloc (.map #[] 0)) w.heap.size (fun _ => none) :=
  ⟨0, .map [], Nat.le_refl _, World.ownsMap_made w P k E.R, ⟨[], rfl⟩, fun _ _ _ _ => rfl⟩
theorem MapG.mono (h : MapG P k kv E N w b f) {N' : Nat} (hN : N ≤ N') : MapG P k kv E N' w b f := by
  obtain ⟨n, D, h1, h2⟩ := h
  exact ⟨n, D, Nat.le_trans h1 hN, h2⟩
theorem MapG.lt (h : MapG P k kv E N w b f) : b < w.heap.size := by obtain ⟨n, D, _, h, _⟩ := h; exact h.lt
theorem MapG.kept {w' : World} (h : MapG P k kv E N w b f) (hb : w'.heap[b]? = w.heap[b]?) : MapG P k kv E N w' b f := by
  obtain ⟨n, D, h1, ⟨es, cl, h3, h4⟩, h5⟩ := h
  exact ⟨n, D, h1, ⟨es, cl, hb.trans h3, h4⟩, h5⟩
theorem MapG.below {w' : World} {B : Nat} (h : MapG P k kv E N w b f) (hB : b < B) (hb : Below B w w') : MapG P k kv E N w' b f := h.kept (hb.block _ hB)
theorem MapG.kind (h : MapG P k kv E N w b f) : ∃ es cl, w.heap[b]? = some (.map es cl) := by
  obtain ⟨n, D, h1, ⟨es, cl, h3, h4⟩, h5⟩ := h
  exact ⟨es, cl, h3⟩
theorem MapG.look (h : MapG P k kv E N w b f) (K : Keyed P k) (hT : P.underlying T = some (.map k X)) {z : Value} (hz : (zeroValue X).run P w = .ok z w) (c : Bool) (x : κ) {l : Lit} (hkey : keyOf P k (kv x) = some l) :
    (Instr.lookup T (.map (some b)) (kv x) c).run P w = .ok (got c z E (f x)) w := by
  obtain ⟨n, D, hn, ⟨es, cl, hb, F, _, hD⟩, _, hat⟩ := h
  have ha := hat x l hkey
  rcases Maps.fit_look c K hT hz hb F hkey with ⟨hrun, _, h1⟩ | ⟨e0, y, _, _, hrun, hRv, h1, _⟩
  · rw [hrun]
    have e1 := h1 .nil
    rw [← hD, ha .nil] at e1
    cases hx : f x with
    | none => rfl
    | some a => rw [hx] at e1; exact absurd e1 (E.ne a)
  · rw [hrun]
    obtain ⟨a', hv, rfl⟩ := E.inv _ _ hRv
    have e1 := h1 .nil
    rw [← hD, ha .nil] at e1
    cases hx : f x with
    | none => rw [hx] at e1; exact absurd e1.symm (E.ne a')
    | some a =>
      rw [hx] at e1
      obtain rfl := E.inj _ _ e1
      rw [hv]
      rfl
theorem MapG.update [DecidableEq κ] (h : MapG P k kv E N w b f) (K : Keyed P k) (hT : P.underlying T = some (.map k X)) (hinj : ∀ x y, kv x = kv y → x = y) (hN : N < maxLen) (x : κ) {l : Lit} (hkey : keyOf P k (kv x) = some l) (a : α) :
    ∃ w', (Instr.mapUpdate T (.map (some b)) (kv x) (E.v a)).run P w = .ok () w' ∧ MapG P k kv E (N + 1) w' b (fun t => if t = x then some a else f t) ∧ w.grownBy w' (some b) := by
  obtain ⟨n, D, hn, ho, hm, hat⟩ := h
  obtain ⟨w', hrun, ho', hg⟩ := ho.update K hT (Nat.lt_of_le_of_lt hn hN) hkey (E.reads a)
  refine ⟨w', hrun, ⟨n + 1, _, by omega, ho', ?_, fun t lt ht z => ?_⟩, hg⟩
  · exact hm.put _ _
  · by_cases e : t = x
    · subst e
      simp only [if_true]
      rw [hkey] at ht
      cases ht
      exact atKey_put_same hm (K.key hkey) _ _
    · simp only [e, if_false]
      rw [atKey_put_other (fun h => e (hinj t x (K.inj ht (by rw [h]; exact hkey))))]
      exact hat t lt ht z
/-- How an element of type struct{} is told. -/
def unE : Enc Unit where
  R := unitElem
  v _ := .agg #[]
  d _ := .agg []
  reads _ := unitElem_mk
  inv x y h := ⟨(), (unitElem_inv h).1, (unitElem_inv h).2⟩
  inj _ _ _ := rfl
  ne _ h := by cases h
def rI : Value → Option (DataW Unit × List MemPlace)
  | .int .i64 a => some (.lit (.int .i64 a), [])
  | _ => none
/-- An int. -/
def i64E : Enc Int where
  R := rI
  v a := .int .i64 a
  d a := .lit (.int .i64 a)
  reads _ := rfl
  inv x y h := by
    unfold rI at h
    split at h
    · exact ⟨_, rfl, (Option.some.inj h).symm⟩
    · cases h
  inj a b h := by
    simp only [DataW.lit.injEq, Lit.int.injEq, true_and] at h
    exact h
  ne a h := by cases h
def rB : Value → Option (DataW Unit × List MemPlace)
  | .bool a => some (.lit (.bool a), [])
  | _ => none
/-- A bool. -/
def boolE : Enc Bool where
  R := rB
  v a := .bool a
  d a := .lit (.bool a)
  reads _ := rfl
  inv x y h := by
    unfold rB at h
    split at h
    · exact ⟨_, rfl, (Option.some.inj h).symm⟩
    · cases h
  inj a b h := by
    simp only [DataW.lit.injEq, Lit.bool.injEq] at h
    exact h
  ne a h := by cases h
end Go.MapFun
/- What the library's search for a byte and numbers in texts do, at this program: by the shelf's contracts. -/
namespace Go.Proofs.YtmnenamdjkjlaaaDoor
open Go.RowKit Go.Sort Go.Shelf
def indexByteL_ren : Go.Shelf.Ren := ⟨fun | 137 => 80 | 217 => 86 | 266 => 89 | n => n, fun | 9 => 9 | 5 => 5 | 3 => 3 | n => n, fun | n => n⟩
theorem indexByteL : Go.Proofs.Lays.n137 Tryd.prog indexByteL_ren := {
  mixed := by kernel_rfl
  f137 := Tryd.func80.trans (congrArg some (by kernel_rfl))
  f217 := Tryd.func86.trans (congrArg some (by kernel_rfl))
  f266 := Tryd.func89.trans (congrArg some (by kernel_rfl))
  t3 := Tryd.underlying3
  a3 := Tryd.isAgg3
  z3 := Tryd.sizeOf3
  v3 := Tryd.zeroValue3
  t5 := Tryd.underlying5
  a5 := Tryd.isAgg5
  z5 := Tryd.sizeOf5
  v5 := Tryd.zeroValue5
  t9 := Tryd.underlying9
  a9 := Tryd.isAgg9
  z9 := Tryd.sizeOf9
  v9 := Tryd.zeroValue9 }
def itoaL_ren : Go.Shelf.Ren := ⟨fun | 171 => 79 | 243 => 85 | 246 => 88 | 283 => 90 | 284 => 91 | 285 => 92 | 286 => 93 | 129 => 54 | 317 => 94 | 318 => 95 | 319 => 96 | 320 => 97 | 337 => 98 | 338 => 99 | n => n, fun | 3 => 3 | 9 => 9 | 2 => 2 | 4 => 4 | 171 => 142 | 0 => 0 | 53 => 25 | 37 => 116 | 5 => 5 | 173 => 144 | 212 => 148 | 51 => 107 | 20 => 20 | 213 => 149 | 46 => 63 | 232 => 150 | 233 => 151 | n => n, fun | 17 => 1 | 18 => 2 | 19 => 3 | n => n⟩
theorem itoaL : Go.Proofs.LaysM.n171 Tryd.prog itoaL_ren := {
  mixed := by kernel_rfl
  f129 := Tryd.func54.trans (congrArg some (by kernel_rfl))
  f171 := Tryd.func79.trans (congrArg some (by kernel_rfl))
  f243 := Tryd.func85.trans (congrArg some (by kernel_rfl))
  f246 := Tryd.func88.trans (congrArg some (by kernel_rfl))
  f283 := Tryd.func90.trans (congrArg some (by kernel_rfl))
  f284 := Tryd.func91.trans (congrArg some (by kernel_rfl))
  f285 := Tryd.func92.trans (congrArg some (by kernel_rfl))
  f286 := Tryd.func93.trans (congrArg some (by kernel_rfl))
  f317 := Tryd.func94.trans (congrArg some (by kernel_rfl))
  f318 := Tryd.func95.trans (congrArg some (by kernel_rfl))
  f319 := Tryd.func96.trans (congrArg some (by kernel_rfl))
  f320 := Tryd.func97.trans (congrArg some (by kernel_rfl))
  f337 := Tryd.func98.trans (congrArg some (by kernel_rfl))
  f338 := Tryd.func99.trans (congrArg some (by kernel_rfl))
  t0 := Tryd.underlying0
  a0 := Tryd.isAgg0
  z0 := Tryd.sizeOf0
  v0 := Tryd.zeroValue0
  t2 := Tryd.underlying2
  a2 := Tryd.isAgg2
  z2 := Tryd.sizeOf2
  v2 := Tryd.zeroValue2
  t3 := Tryd.underlying3
  a3 := Tryd.isAgg3
  z3 := Tryd.sizeOf3
  v3 := Tryd.zeroValue3
  t4 := Tryd.underlying4
  a4 := Tryd.isAgg4
  z4 := Tryd.sizeOf4
  v4 := Tryd.zeroValue4
  t5 := Tryd.underlying5
  a5 := Tryd.isAgg5
  z5 := Tryd.sizeOf5
  v5 := Tryd.zeroValue5
  t9 := Tryd.underlying9
  a9 := Tryd.isAgg9
  z9 := Tryd.sizeOf9
  v9 := Tryd.zeroValue9
  t20 := Tryd.underlying20
  a20 := Tryd.isAgg20
  z20 := Tryd.sizeOf20
  v20 := Tryd.zeroValue20
  t37 := Tryd.underlying116
  a37 := Tryd.isAgg116
  z37 := Tryd.sizeOf116
  v37 := Tryd.zeroValue116
  t46 := Tryd.underlying63
  a46 := Tryd.isAgg63
  z46 := Tryd.sizeOf63
  v46 := Tryd.zeroValue63
  t51 := Tryd.underlying107
  a51 := Tryd.isAgg107
  z51 := Tryd.sizeOf107
  v51 := Tryd.zeroValue107
  t53 := Tryd.underlying25
  a53 := Tryd.isAgg25
  z53 := Tryd.sizeOf25
  v53 := Tryd.zeroValue25
  t171 := Tryd.underlying142
  a171 := Tryd.isAgg142
  z171 := Tryd.sizeOf142
  v171 := Tryd.zeroValue142
  t173 := Tryd.underlying144
  a173 := Tryd.isAgg144
  z173 := Tryd.sizeOf144
  v173 := Tryd.zeroValue144
  t212 := Tryd.underlying148
  a212 := Tryd.isAgg148
  z212 := Tryd.sizeOf148
  v212 := Tryd.zeroValue148
  t213 := Tryd.underlying149
  a213 := Tryd.isAgg149
  z213 := Tryd.sizeOf149
  t232 := Tryd.underlying150
  a232 := Tryd.isAgg150
  z232 := Tryd.sizeOf150
  v232 := Tryd.zeroValue150
  t233 := Tryd.underlying151
  a233 := Tryd.isAgg151
  z233 := Tryd.sizeOf151
  v233 := Tryd.zeroValue151
  g17 := by kernel_rfl
  g18 := by kernel_rfl
  g19 := by kernel_rfl
  i0 := by kernel_rfl
  i2 := by kernel_rfl
  i3 := by kernel_rfl
  i4 := by kernel_rfl
  i5 := by kernel_rfl
  i9 := by kernel_rfl
  i20 := by kernel_rfl
  i37 := by kernel_rfl
  i46 := by kernel_rfl
  i51 := by kernel_rfl
  i53 := by kernel_rfl
  i171 := by kernel_rfl
  i173 := by kernel_rfl
  i212 := by kernel_rfl
  i232 := by kernel_rfl
  i233 := by kernel_rfl
  m17 := by kernel_rfl
  m18 := by kernel_rfl
  m19 := by kernel_rfl }

end Go.Proofs.YtmnenamdjkjlaaaDoor
/- A slice of strings that is read: what it holds; a row of bytes written out; of no program. -/
namespace Go.ByteRow
open Go.RowKit Go.Sha
/-- A row of bytes, as it is laid. -/
theorem Has.lit {base : Nat} {w : World} (hb : base ≤ w.heap.size) (cs : Array Value) (l : List UInt8) (n : Nat) (hn : n = l.length) (hcs : cs = (l.map byteV).toArray) (e : TypeId) : Has base (w.alloc (.cells cs e)) (.slice (some ⟨w.heap.size, 0, none⟩) n n) l := by
  subst hn hcs
  have hh := heap_alloc_new w (.cells (l.map byteV).toArray e (0, 0))
  refine .inr ⟨w.heap.size, l.length, rfl, hb, by simp, Nat.le_refl _, fun j c hj => ?_, fun j hj => ?_⟩
  · rw [cell_of_row _ _ _ _ _ _ hh, List.getElem?_toArray, List.getElem?_map, hj]; rfl
  · exact ⟨by rw [cell_of_row _ _ _ _ _ _ hh, List.getElem?_toArray, List.getElem?_map, List.getElem?_eq_getElem hj]; rfl, frozen_of_row _ _ _ _ _ hh⟩
end Go.ByteRow
namespace Go.StrRow
open Go.RowKit
/-- The slice value v holds the strings xs, in a block that is there. -/
def Reads (w : World) (v : Value) (xs : List ByteArray) : Prop :=
  ((∃ a cap, v = .slice a 0 cap) ∧ xs = []) ∨
  ∃ b off cap, v = .slice (some ⟨b, off, none⟩) xs.length cap ∧ b < w.heap.size ∧ xs.length ≤ cap ∧ ∀ j s, xs[j]? = some s → w.cell? ⟨b, off + j, none⟩ = some (.string s)
theorem Reads.below {w w' : World} {v : Value} {xs : List ByteArray} (h : Reads w v xs) {B : Nat} (hb : Below B w w') (hB : w.heap.size ≤ B) : Reads w' v xs := by
  rcases h with h | ⟨b, off, cap, h1, h2, h3, h4⟩
  · exact .inl h
  · exact .inr ⟨b, off, cap, h1, Nat.lt_of_lt_of_le h2 hb.size, h3, fun j s hj => by rw [hb.cell (p := ⟨b, off + j, none⟩) (by show b < B; omega)]; exact h4 j s hj⟩
theorem Reads.form {w : World} {v : Value} {xs : List ByteArray} (h : Reads w v xs) : ∃ a c, v = .slice a xs.length c := by
  rcases h with ⟨⟨a, cap, h⟩, rfl⟩ | ⟨b, off, cap, h1, _⟩
  · exact ⟨a, cap, h⟩
  · exact ⟨_, cap, h1⟩
theorem Reads.at {w : World} {v : Value} {xs : List ByteArray} (h : Reads w v xs) (hx : xs ≠ []) : ∃ b off cap, v = .slice (some ⟨b, off, none⟩) xs.length cap ∧ xs.length ≤ cap ∧ b < w.heap.size := by
  rcases h with ⟨_, rfl⟩ | ⟨b, off, cap, h1, h2, h3, _⟩
  · exact absurd rfl hx
  · exact ⟨b, off, cap, h1, h3, h2⟩
theorem Reads.cell {w : World} {b off cap n : Nat} {xs : List ByteArray} (h : Reads w (.slice (some ⟨b, off, none⟩) n cap) xs) {j : Nat} {s : ByteArray} (hj : xs[j]? = some s) : w.cell? ⟨b, off + j, none⟩ = some (.string s) := by
  rcases h with ⟨_, rfl⟩ | ⟨b', off', cap', h1, _, _, h4⟩
  · cases hj
  · simp only [Value.slice.injEq, Option.some.injEq, Addr.mk.injEq] at h1
    obtain ⟨⟨rfl, rfl, -⟩, -, rfl⟩ := h1
    exact h4 j s hj
theorem Reads.of_own {base e : Nat} {w : World} {v : Value} {n : Nat} {xs : List ByteArray} (h : w.ownsRow base e 1 v n (xs.map Value.string)) : Reads w v xs := by
  obtain ⟨h0, h1⟩ := h
  have hn : n = xs.length := by simpa using h0.symm
  subst hn
  rcases h1 with ⟨h1, h2⟩ | ⟨g, cap, cur, h1, h2, h3, h4, _, h6, h7⟩
  · exact .inl ⟨⟨none, 0, h1⟩, List.length_eq_zero_iff.1 h2⟩
  · have hlt : g < w.heap.size := by
      rcases Nat.lt_or_ge g w.heap.size with h | h
      · exact h
      · rw [Array.getElem?_eq_none h] at h3; cases h3
    refine .inr ⟨g, 0, cap, h1, hlt, h4, fun j s hj => ?_⟩
    have hjl : j < xs.length := (List.getElem?_eq_some_iff.1 hj).1
    rw [Nat.zero_add, cell_of_row _ _ _ _ _ _ h3, ← Array.getElem?_toList]
    have : (cur.toList.take (xs.length * 1))[j]? = some (.string s) := by rw [h7, List.getElem?_map, hj]; rfl
    rwa [List.getElem?_take_of_lt (by omega)] at this
end Go.StrRow
/- Contracts: a byte that may stand, a text that may be a name: the program's and the document's. -/
namespace Go.Names
theorem index_has (l : Bs) (c : UInt8) : (0 ≤ Lib.indexByte l c) ↔ c ∈ l := by
  induction l with
  | nil => simp [Lib.indexByte]
  | cons b l ih =>
    have := Lib.indexByte_ge l c
    unfold Lib.indexByte
    by_cases h : b = c
    · subst h; simp
    · have h' : (b == c) = false := by simpa using h
      simp only [h', Bool.false_eq_true, if_false, List.mem_cons, ← ih]
      have h2 : ¬ c = b := fun e => h e.symm
      simp only [h2, false_or]
      by_cases h3 : Lib.indexByte l c = -1
      · simp [h3]
      · have h4 : (Lib.indexByte l c == -1) = false := by simpa using h3
        simp only [h4, Bool.false_eq_true, if_false]
        omega
theorem okB_bad {c : UInt8} (h1 : 33 ≤ c.toNat) (h2 : c.toNat ≤ 126) : okB c = !bad.contains c := by simp [okB, h1, h2]
theorem okB_lo {c : UInt8} (h1 : c.toNat < 33) : okB c = false := by simp [okB]; omega
theorem okB_hi {c : UInt8} (h1 : 126 < c.toNat) : okB c = false := by simp [okB]; omega
theorem toByte (c : UInt8) : ((c.toNat : Int)).toNat.toUInt8 = c := by simp
end Go.Names
namespace Go.Proofs.YtmnenamdjkjlaaaDoor
open Go.RowKit Go.Shelf Go.Names
set_option maxRecDepth 100000 in
theorem hide {p : Prop} (h : p) : Hid p := h
set_option maxRecDepth 100000 in
set_option maxHeartbeats 1000000 in
theorem stands_any (c : UInt8) (w : World) :
    Calls Tryd.prog 62 #[.int .u8 (c.toNat : Int)] w fun e w' => e = .returned (.bool (okB c)) ∧ w' = w := by
  by_cases h1 : c.toNat < 33
  · have h1' : (c.toNat : Int) < 33 := by omega
    rw [okB_lo h1]
    go_enter Tryd.func62, Tryd.ntmps62
    go_wp2
    go_ret
    exact ⟨rfl, rfl⟩
  · have h1' : ¬ (c.toNat : Int) < 33 := by omega
    by_cases h2 : 126 < c.toNat
    · have h2' : (126 : Int) < (c.toNat : Int) := by omega
      rw [okB_hi h2]
      go_enter Tryd.func62, Tryd.ntmps62
      go_wp2
      go_ret
      exact ⟨rfl, rfl⟩
    · have h2' : ¬ (126 : Int) < (c.toNat : Int) := by omega
      have hc := Any.strings_IndexByte indexByteL ⟨#[47, 92, 58, 42, 63, 34, 60, 62, 124]⟩ (c.toNat : Int) w
      rw [toByte] at hc
      have hi : (0 ≤ Lib.indexByte [47, 92, 58, 42, 63, 34, 60, 62, 124] c) ↔ c ∈ bad := index_has _ c
      rw [okB_bad (by omega) (by omega)]
      have hb : bad.contains c = decide (0 ≤ Lib.indexByte [47, 92, 58, 42, 63, 34, 60, 62, 124] c) := by
        by_cases h : c ∈ bad
        · rw [decide_eq_true (hi.2 h)]; simpa using h
        · rw [decide_eq_false (fun h3 => h (hi.1 h3))]; simpa using h
      rw [hb]
      clear hb hi
      change Calls _ _ _ _ (fun e w' => e = .returned (.int .i64 (Lib.indexByte [47, 92, 58, 42, 63, 34, 60, 62, 124] c)) ∧ w' = w) at hc
      generalize Lib.indexByte [47, 92, 58, 42, 63, 34, 60, 62, 124] c = i at hc
      by_cases h3 : 0 ≤ i
      · rw [decide_eq_true h3]
        go_enter Tryd.func62, Tryd.ntmps62
        go_wp2_with (go_at_call 80; refine hc.mono ?_; rintro e w1 ⟨rfl, rfl⟩)
        go_ret
        exact ⟨rfl, rfl⟩
      · rw [decide_eq_false h3]
        go_enter Tryd.func62, Tryd.ntmps62
        go_wp2_with (go_at_call 80; refine hc.mono ?_; rintro e w1 ⟨rfl, rfl⟩)
        go_ret
        exact ⟨rfl, rfl⟩
set_option maxRecDepth 100000 in
theorem data_get (s : ByteArray) (k : Nat) (h : k < s.size) : s.data.toList[k]? = some s[k] := by
  rw [List.getElem?_eq_getElem (by simpa using h)]
  rfl
set_option maxRecDepth 100000 in
theorem all_take (s : ByteArray) (k : Nat) (h : k < s.size) (p : UInt8 → Bool) : (s.data.toList.take (k + 1)).all p = ((s.data.toList.take k).all p && p s[k]) := by
  rw [List.take_add_one, data_get s k h]
  simp
set_option maxRecDepth 100000 in
theorem last_get (s : ByteArray) (h : 0 < s.size) : s.data.toList.getLast? = some (s[s.size - 1]'(by omega)) := by
  rw [List.getLast?_eq_getElem?, Array.length_toList]
  exact data_get s (s.size - 1) (by omega)
set_option maxRecDepth 100000 in
theorem all_false {s : ByteArray} {k : Nat} (h : k < s.size) (hc : okB s[k] = false) : s.data.toList.all okB = false := by
  rw [List.all_eq_false]
  exact ⟨s[k], List.mem_of_getElem? (data_get s k h), by rw [hc]; decide⟩
set_option maxRecDepth 100000 in
theorem empty_no (s : ByteArray) (h : s.size ≠ 0) : s.toList.isEmpty = false := by
  rw [ByteArray.toList_eq, List.isEmpty_eq_false_iff]
  intro e
  have := congrArg List.length e
  rw [Array.length_toList] at this
  exact h this
set_option maxRecDepth 100000 in
theorem ne46 (c : UInt8) : ((c.toNat : Int) != 46) = (c != 46) := by
  by_cases h : c = 46
  · subst h; rfl
  · rw [bne_iff_ne.2 h, bne_iff_ne.2 (fun h2 => h (UInt8.toNat_inj.1 (by rw [show (46 : UInt8).toNat = 46 from rfl]; omega)))]
set_option maxRecDepth 100000 in
theorem legal_len {s : ByteArray} (h : s.size < 1 ∨ 32 < s.size) : legal s.data.toList = false := by
  unfold legal
  have : s.data.toList.length = s.size := by simp
  rw [this]
  rcases h with h | h
  · rw [decide_eq_false (by omega : ¬ 1 ≤ s.size)]; rfl
  · rw [decide_eq_false (by omega : ¬ s.size ≤ 32), Bool.and_false]; rfl
set_option maxRecDepth 100000 in
theorem legal_is {s : ByteArray} (h1 : 1 ≤ s.size) (h2 : s.size ≤ 32) : legal s.data.toList = (s.data.toList.all okB && (s[s.size - 1]'(by omega) != 46)) := by
  unfold legal endsWell
  have : s.data.toList.length = s.size := by simp
  rw [this, decide_eq_true h1, decide_eq_true h2, last_get s h1]
  simp only [Bool.true_and]
  generalize s[s.size - 1]'(by omega) = c
  by_cases h : c = 46
  · subst h; rfl
  · rw [bne_iff_ne.2 h, bne_iff_ne.2 (fun h2 => h (Option.some.inj h2))]
end Go.Proofs.YtmnenamdjkjlaaaDoor
