/- Several texts in one: MapKey, NameShelf, Strs, NameLeaves. -/
import Derived.Test.YtnbhchdaobimmaaGreatDoorMapAll
import Derived.DeepKeys4
import Derived.Shelf.Small.Strs
import Derived.Shelf.Strings.LastIndex
import Derived.Shelf.Strconv.Itoa3
import Derived.Test.YtnbhchdaobimmaaGreatDoorRows
import Derived.WalkKit
import Derived.Test.YtnbhchdaobimmaaGreatDoorRunAA
import Derived.Test.YtnbhchdaobimmaaGreatDoorNameMath
/- A map with keys of any kind that the library can tell apart, told as a function from what its keys stand for; of no program. -/
namespace Go.MapFun
open Go.RowKit Go.Maps
variable {κ α : Type} {E : Enc α} {P : Program} {k T X N : Nat} {w : World} {b : Nat} {kv : κ → Value} {f : κ → Option α}
/-- Block b is a map that holds f, with at most N entries. -/
def MapG (P : Program) (k : TypeId) (kv : κ → Value) (E : Enc α) (N : Nat) (w : World) (b : Nat) (f : κ → Option α) : Prop :=
 ∃ n D, n ≤ N ∧ w.ownsMap P k E.R b n D ∧ IsMap D ∧ ∀ x l, keyOf P k (kv x) = some l → ∀ z, D.atKey l z = match f x with | some a => E.d a | none => z
theorem MapG.made (P : Program) (k : TypeId) (kv : κ → Value) (E : Enc α) (w : World) : MapG P k kv E 0 (w.alloc (.map #[] 0)) w.heap.size (fun _ => none) :=
 ⟨0, .map [], Nat.le_refl _, World.ownsMap_made w P k E.R, ⟨[], rfl⟩, fun _ _ _ _ => rfl⟩
theorem MapG.mono (h : MapG P k kv E N w b f) {N' : Nat} (hN : N ≤ N') : MapG P k kv E N' w b f := by
 obtain ⟨n, D, h1, h2⟩ := h
 exact ⟨n, D, Nat.le_trans h1 hN, h2⟩
theorem MapG.lt (h : MapG P k kv E N w b f) : b < w.heap.size := by obtain ⟨n, D, _, h, _⟩ := h; exact h.lt
theorem MapG.kept {w' : World} (h : MapG P k kv E N w b f) (hb : w'.heap[b]? = w.heap[b]?) : MapG P k kv E N w' b f := by
 obtain ⟨n, D, h1, ⟨es, cl, h3, h4⟩, h5⟩ := h
 exact ⟨n, D, h1, ⟨es, cl, hb.trans h3, h4⟩, h5⟩
theorem MapG.below {w' : World} {B : Nat} (h : MapG P k kv E N w b f) (hB : b < B) (hb : Below B w w') : MapG P k kv E N w' b f := h.kept (hb.block _ hB)
theorem MapG.kind (h : MapG P k kv E N w b f) : ∃ es cl, w.heap[b]? = some (.map es cl) := by
 obtain ⟨n, D, h1, ⟨es, cl, h3, h4⟩, h5⟩ := h
 exact ⟨es, cl, h3⟩
theorem MapG.look (h : MapG P k kv E N w b f) (K : Keyed P k) (hT : P.underlying T = some (.map k X)) {z : Value} (hz : (zeroValue X).run P w = .ok z w) (c : Bool) (x : κ) {l : Lit} (hkey : keyOf P k (kv x) = some l) :
  (Instr.lookup T (.map (some b)) (kv x) c).run P w = .ok (got c z E (f x)) w := by
 obtain ⟨n, D, hn, ⟨es, cl, hb, F, _, hD⟩, _, hat⟩ := h
 have ha := hat x l hkey
 rcases Maps.fit_look c K hT hz hb F hkey with ⟨hrun, _, h1⟩ | ⟨e0, y, _, _, hrun, hRv, h1, _⟩
 ·rw [hrun]
  have e1 := h1 .nil
  rw [← hD, ha .nil] at e1
  cases hx : f x with
  | none => rfl
  | some a => rw [hx] at e1; exact absurd e1 (E.ne a)
 ·rw [hrun]
  obtain ⟨a', hv, rfl⟩ := E.inv _ _ hRv
  have e1 := h1 .nil
  rw [← hD, ha .nil] at e1
  cases hx : f x with
  | none => rw [hx] at e1; exact absurd e1.symm (E.ne a')
  | some a =>
   rw [hx] at e1
   obtain rfl := E.inj _ _ e1
   rw [hv]
   rfl
theorem MapG.update [DecidableEq κ] (h : MapG P k kv E N w b f) (K : Keyed P k) (hT : P.underlying T = some (.map k X)) (hinj : ∀ x y, kv x = kv y → x = y) (hN : N < maxLen) (x : κ) {l : Lit} (hkey : keyOf P k (kv x) = some l) (a : α) :
  ∃ w', (Instr.mapUpdate T (.map (some b)) (kv x) (E.v a)).run P w = .ok () w' ∧ MapG P k kv E (N + 1) w' b (fun t => if t = x then some a else f t) ∧ w.grownBy w' (some b) := by
 obtain ⟨n, D, hn, ho, hm, hat⟩ := h
 obtain ⟨w', hrun, ho', hg⟩ := ho.update K hT (Nat.lt_of_le_of_lt hn hN) hkey (E.reads a)
 refine ⟨w', hrun, ⟨n + 1, _, by omega, ho', ?_, fun t lt ht z => ?_⟩, hg⟩
 ·exact hm.put _ _
 ·by_cases e : t = x
  ·subst e
   simp only [if_true]
   rw [hkey] at ht
   cases ht
   exact atKey_put_same hm (K.key hkey) _ _
  ·simp only [e, if_false]
   rw [atKey_put_other (fun h => e (hinj t x (K.inj ht (by rw [h]; exact hkey))))]
   exact hat t lt ht z
/-- How an element of type struct{} is told. -/
def unE : Enc Unit where
 R := unitElem
 v _ := .agg #[]
 d _ := .agg []
 reads _ := unitElem_mk
 inv x y h := ⟨(), (unitElem_inv h).1, (unitElem_inv h).2⟩
 inj _ _ _ := rfl
 ne _ h := by cases h
def rI : Value → Option (DataW Unit × List MemPlace)
 | .int .i64 a => some (.lit (.int .i64 a), [])
 | _ => none
/-- An int. -/
def i64E : Enc Int where
 R := rI
 v a := .int .i64 a
 d a := .lit (.int .i64 a)
 reads _ := rfl
 inv x y h := by
  unfold rI at h
  split at h
  ·exact ⟨_, rfl, (Option.some.inj h).symm⟩
  ·cases h
 inj a b h := by
  simp only [DataW.lit.injEq, Lit.int.injEq, true_and] at h
  exact h
 ne a h := by cases h
def rB : Value → Option (DataW Unit × List MemPlace)
 | .bool a => some (.lit (.bool a), [])
 | _ => none
/-- A bool. -/
def boolE : Enc Bool where
 R := rB
 v a := .bool a
 d a := .lit (.bool a)
 reads _ := rfl
 inv x y h := by
  unfold rB at h
  split at h
  ·exact ⟨_, rfl, (Option.some.inj h).symm⟩
  ·cases h
 inj a b h := by
  simp only [DataW.lit.injEq, Lit.bool.injEq] at h
  exact h
 ne a h := by cases h
end Go.MapFun
/- What the library's search for a byte and numbers in texts do, at this program: by the shelf's contracts. -/
namespace Go.Proofs.YtnbhchdaobimmaaGreatDoor
open Go.RowKit Go.Sort Go.Shelf
def indexByteL_ren : Go.Shelf.Ren := ⟨fun | 137 => 140 | 217 => 150 | 266 => 156 | n => n, fun | 9 => 9 | 5 => 5 | 3 => 3 | n => n, fun | n => n⟩
theorem indexByteL : Go.Proofs.Lays.n137 Tryz.prog indexByteL_ren := {
 mixed := by kernel_rfl
 f137 := Tryz.func140.trans (congrArg some (by kernel_rfl))
 f217 := Tryz.func150.trans (congrArg some (by kernel_rfl))
 f266 := Tryz.func156.trans (congrArg some (by kernel_rfl))
 t3 := Tryz.underlying3
 a3 := Tryz.isAgg3
 z3 := Tryz.sizeOf3
 v3 := Tryz.zeroValue3
 t5 := Tryz.underlying5
 a5 := Tryz.isAgg5
 z5 := Tryz.sizeOf5
 v5 := Tryz.zeroValue5
 t9 := Tryz.underlying9
 a9 := Tryz.isAgg9
 z9 := Tryz.sizeOf9
 v9 := Tryz.zeroValue9 }
def lastByteL_ren : Go.Shelf.Ren := ⟨fun | 149 => 124 | 222 => 143 | n => n, fun | 9 => 9 | 5 => 5 | 3 => 3 | 4 => 4 | n => n, fun | n => n⟩
theorem lastByteL : Go.Proofs.Lays.n149 Tryz.prog lastByteL_ren := {
 mixed := by kernel_rfl
 f149 := Tryz.func124.trans (congrArg some (by kernel_rfl))
 f222 := Tryz.func143.trans (congrArg some (by kernel_rfl))
 t3 := Tryz.underlying3
 a3 := Tryz.isAgg3
 z3 := Tryz.sizeOf3
 v3 := Tryz.zeroValue3
 t4 := Tryz.underlying4
 a4 := Tryz.isAgg4
 z4 := Tryz.sizeOf4
 v4 := Tryz.zeroValue4
 t5 := Tryz.underlying5
 a5 := Tryz.isAgg5
 z5 := Tryz.sizeOf5
 v5 := Tryz.zeroValue5
 t9 := Tryz.underlying9
 a9 := Tryz.isAgg9
 z9 := Tryz.sizeOf9
 v9 := Tryz.zeroValue9 }
def itoaL_ren : Go.Shelf.Ren := ⟨fun | 171 => 139 | 243 => 149 | 246 => 155 | 283 => 159 | 284 => 160 | 285 => 161 | 286 => 162 | 129 => 98 | 317 => 166 | 318 => 167 | 319 => 168 | 320 => 169 | 337 => 171 | 338 => 172 | n => n, fun | 3 => 3 | 9 => 9 | 2 => 2 | 4 => 4 | 171 => 220 | 0 => 0 | 53 => 49 | 37 => 65 | 5 => 5 | 173 => 222 | 212 => 230 | 51 => 177 | 20 => 20 | 213 => 231 | 46 => 139 | 232 => 234 | 233 => 235 | n => n, fun | 17 => 3 | 18 => 4 | 19 => 5 | n => n⟩
theorem itoaL : Go.Proofs.LaysM.n171 Tryz.prog itoaL_ren := {
 mixed := by kernel_rfl
 f129 := Tryz.func98.trans (congrArg some (by kernel_rfl))
 f171 := Tryz.func139.trans (congrArg some (by kernel_rfl))
 f243 := Tryz.func149.trans (congrArg some (by kernel_rfl))
 f246 := Tryz.func155.trans (congrArg some (by kernel_rfl))
 f283 := Tryz.func159.trans (congrArg some (by kernel_rfl))
 f284 := Tryz.func160.trans (congrArg some (by kernel_rfl))
 f285 := Tryz.func161.trans (congrArg some (by kernel_rfl))
 f286 := Tryz.func162.trans (congrArg some (by kernel_rfl))
 f317 := Tryz.func166.trans (congrArg some (by kernel_rfl))
 f318 := Tryz.func167.trans (congrArg some (by kernel_rfl))
 f319 := Tryz.func168.trans (congrArg some (by kernel_rfl))
 f320 := Tryz.func169.trans (congrArg some (by kernel_rfl))
 f337 := Tryz.func171.trans (congrArg some (by kernel_rfl))
 f338 := Tryz.func172.trans (congrArg some (by kernel_rfl))
 t0 := Tryz.underlying0
 a0 := Tryz.isAgg0
 z0 := Tryz.sizeOf0
 v0 := Tryz.zeroValue0
 t2 := Tryz.underlying2
 a2 := Tryz.isAgg2
 z2 := Tryz.sizeOf2
 v2 := Tryz.zeroValue2
 t3 := Tryz.underlying3
 a3 := Tryz.isAgg3
 z3 := Tryz.sizeOf3
 v3 := Tryz.zeroValue3
 t4 := Tryz.underlying4
 a4 := Tryz.isAgg4
 z4 := Tryz.sizeOf4
 v4 := Tryz.zeroValue4
 t5 := Tryz.underlying5
 a5 := Tryz.isAgg5
 z5 := Tryz.sizeOf5
 v5 := Tryz.zeroValue5
 t9 := Tryz.underlying9
 a9 := Tryz.isAgg9
 z9 := Tryz.sizeOf9
 v9 := Tryz.zeroValue9
 t20 := Tryz.underlying20
 a20 := Tryz.isAgg20
 z20 := Tryz.sizeOf20
 v20 := Tryz.zeroValue20
 t37 := Tryz.underlying65
 a37 := Tryz.isAgg65
 z37 := Tryz.sizeOf65
 v37 := Tryz.zeroValue65
 t46 := Tryz.underlying139
 a46 := Tryz.isAgg139
 z46 := Tryz.sizeOf139
 v46 := Tryz.zeroValue139
 t51 := Tryz.underlying177
 a51 := Tryz.isAgg177
 z51 := Tryz.sizeOf177
 v51 := Tryz.zeroValue177
 t53 := Tryz.underlying49
 a53 := Tryz.isAgg49
 z53 := Tryz.sizeOf49
 v53 := Tryz.zeroValue49
 t171 := Tryz.underlying220
 a171 := Tryz.isAgg220
 z171 := Tryz.sizeOf220
 v171 := Tryz.zeroValue220
 t173 := Tryz.underlying222
 a173 := Tryz.isAgg222
 z173 := Tryz.sizeOf222
 v173 := Tryz.zeroValue222
 t212 := Tryz.underlying230
 a212 := Tryz.isAgg230
 z212 := Tryz.sizeOf230
 v212 := Tryz.zeroValue230
 t213 := Tryz.underlying231
 a213 := Tryz.isAgg231
 z213 := Tryz.sizeOf231
 t232 := Tryz.underlying234
 a232 := Tryz.isAgg234
 z232 := Tryz.sizeOf234
 v232 := Tryz.zeroValue234
 t233 := Tryz.underlying235
 a233 := Tryz.isAgg235
 z233 := Tryz.sizeOf235
 v233 := Tryz.zeroValue235
 g17 := by kernel_rfl
 g18 := by kernel_rfl
 g19 := by kernel_rfl
 i0 := by kernel_rfl
 i2 := by kernel_rfl
 i3 := by kernel_rfl
 i4 := by kernel_rfl
 i5 := by kernel_rfl
 i9 := by kernel_rfl
 i20 := by kernel_rfl
 i37 := by kernel_rfl
 i46 := by kernel_rfl
 i51 := by kernel_rfl
 i53 := by kernel_rfl
 i171 := by kernel_rfl
 i173 := by kernel_rfl
 i212 := by kernel_rfl
 i232 := by kernel_rfl
 i233 := by kernel_rfl
 m17 := by kernel_rfl
 m18 := by kernel_rfl
 m19 := by kernel_rfl }

end Go.Proofs.YtnbhchdaobimmaaGreatDoor
/- A slice of strings that is read: what it holds; a row of bytes written out; of no program. -/
namespace Go.ByteRow
open Go.RowKit Go.Sha
end Go.ByteRow
namespace Go.StrRow
open Go.RowKit
/-- The slice value v holds the strings xs, in a block that is there. -/
def Reads (w : World) (v : Value) (xs : List ByteArray) : Prop :=
 ((∃ a cap, v = .slice a 0 cap) ∧ xs = []) ∨
 ∃ b off cap, v = .slice (some ⟨b, off, none⟩) xs.length cap ∧ b < w.heap.size ∧ xs.length ≤ cap ∧ ∀ j s, xs[j]? = some s → w.cell? ⟨b, off + j, none⟩ = some (.string s)
end Go.StrRow
/- Contracts: a byte that may stand, a text that may be a name: the program's and the document's. -/
namespace Go.Names
theorem index_has (l : Bs) (c : UInt8) : (0 ≤ Lib.indexByte l c) ↔ c ∈ l := by
 induction l with
 | nil => simp [Lib.indexByte]
 | cons b l ih =>
  have := Lib.indexByte_ge l c
  unfold Lib.indexByte
  by_cases h : b = c
  ·subst h; simp
  ·have h' : (b == c) = false := by simpa using h
   simp only [h', Bool.false_eq_true, if_false, List.mem_cons, ← ih]
   have h2 : ¬ c = b := fun e => h e.symm
   simp only [h2, false_or]
   by_cases h3 : Lib.indexByte l c = -1
   ·simp [h3]
   ·have h4 : (Lib.indexByte l c == -1) = false := by simpa using h3
    simp only [h4, Bool.false_eq_true, if_false]
    omega
theorem okB_bad {c : UInt8} (h1 : 33 ≤ c.toNat) (h2 : c.toNat ≤ 126) : okB c = !bad.contains c := by simp [okB, h1, h2]
theorem okB_lo {c : UInt8} (h1 : c.toNat < 33) : okB c = false := by simp [okB]; omega
theorem okB_hi {c : UInt8} (h1 : 126 < c.toNat) : okB c = false := by simp [okB]; omega
theorem toByte (c : UInt8) : ((c.toNat : Int)).toNat.toUInt8 = c := by simp
end Go.Names
namespace Go.Proofs.YtnbhchdaobimmaaGreatDoor
open Go.RowKit Go.Shelf Go.Names
set_option maxRecDepth 100000 in
theorem hide {p : Prop} (h : p) : Hid p := h
set_option maxRecDepth 100000 in
set_option maxHeartbeats 1000000 in
theorem stands_any (c : UInt8) (w : World) :
  Calls Tryz.prog 116 #[.int .u8 (c.toNat : Int)] w fun e w' => e = .returned (.bool (okB c)) ∧ w' = w := by
 by_cases h1 : c.toNat < 33
 ·have h1' : (c.toNat : Int) < 33 := by omega
  rw [okB_lo h1]
  go_enter Tryz.func116, Tryz.ntmps116
  go_wp2
  go_ret
  exact ⟨rfl, rfl⟩
 ·have h1' : ¬ (c.toNat : Int) < 33 := by omega
  by_cases h2 : 126 < c.toNat
  ·have h2' : (126 : Int) < (c.toNat : Int) := by omega
   rw [okB_hi h2]
   go_enter Tryz.func116, Tryz.ntmps116
   go_wp2
   go_ret
   exact ⟨rfl, rfl⟩
  ·have h2' : ¬ (126 : Int) < (c.toNat : Int) := by omega
   have hc := Any.strings_IndexByte indexByteL ⟨#[47, 92, 58, 42, 63, 34, 60, 62, 124]⟩ (c.toNat : Int) w
   rw [toByte] at hc
   have hi : (0 ≤ Lib.indexByte [47, 92, 58, 42, 63, 34, 60, 62, 124] c) ↔ c ∈ bad := index_has _ c
   rw [okB_bad (by omega) (by omega)]
   have hb : bad.contains c = decide (0 ≤ Lib.indexByte [47, 92, 58, 42, 63, 34, 60, 62, 124] c) := by
    by_cases h : c ∈ bad
    ·rw [decide_eq_true (hi.2 h)]; simpa using h
    ·rw [decide_eq_false (fun h3 => h (hi.1 h3))]; simpa using h
   rw [hb]
   clear hb hi
   change Calls _ _ _ _ (fun e w' => e = .returned (.int .i64 (Lib.indexByte [47, 92, 58, 42, 63, 34, 60, 62, 124] c)) ∧ w' = w) at hc
   generalize Lib.indexByte [47, 92, 58, 42, 63, 34, 60, 62, 124] c = i at hc
   by_cases h3 : 0 ≤ i
   ·rw [decide_eq_true h3]
    go_enter Tryz.func116, Tryz.ntmps116
    go_wp2_with (go_at_call 140; refine hc.mono ?_; rintro e w1 ⟨rfl, rfl⟩)
    go_ret
    exact ⟨rfl, rfl⟩
   ·rw [decide_eq_false h3]
    go_enter Tryz.func116, Tryz.ntmps116
    go_wp2_with (go_at_call 140; refine hc.mono ?_; rintro e w1 ⟨rfl, rfl⟩)
    go_ret
    exact ⟨rfl, rfl⟩
set_option maxRecDepth 100000 in
theorem data_get (s : ByteArray) (k : Nat) (h : k < s.size) : s.data.toList[k]? = some s[k] := by
 rw [List.getElem?_eq_getElem (by simpa using h)]
 rfl
set_option maxRecDepth 100000 in
theorem all_take (s : ByteArray) (k : Nat) (h : k < s.size) (p : UInt8 → Bool) : (s.data.toList.take (k + 1)).all p = ((s.data.toList.take k).all p && p s[k]) := by
 rw [List.take_add_one, data_get s k h]
 simp
set_option maxRecDepth 100000 in
theorem last_get (s : ByteArray) (h : 0 < s.size) : s.data.toList.getLast? = some (s[s.size - 1]'(by omega)) := by
 rw [List.getLast?_eq_getElem?, Array.length_toList]
 exact data_get s (s.size - 1) (by omega)
set_option maxRecDepth 100000 in
theorem all_false {s : ByteArray} {k : Nat} (h : k < s.size) (hc : okB s[k] = false) : s.data.toList.all okB = false := by
 rw [List.all_eq_false]
 exact ⟨s[k], List.mem_of_getElem? (data_get s k h), by rw [hc]; decide⟩
set_option maxRecDepth 100000 in
theorem ne46 (c : UInt8) : ((c.toNat : Int) != 46) = (c != 46) := by
 by_cases h : c = 46
 ·subst h; rfl
 ·rw [bne_iff_ne.2 h, bne_iff_ne.2 (fun h2 => h (UInt8.toNat_inj.1 (by rw [show (46 : UInt8).toNat = 46 from rfl]; omega)))]
set_option maxRecDepth 100000 in
theorem legal_len {s : ByteArray} (h : s.size < 1 ∨ 32 < s.size) : legal s.data.toList = false := by
 unfold legal
 have : s.data.toList.length = s.size := by simp
 rw [this]
 rcases h with h | h
 ·rw [decide_eq_false (by omega : ¬ 1 ≤ s.size)]; rfl
 ·rw [decide_eq_false (by omega : ¬ s.size ≤ 32), Bool.and_false]; rfl
set_option maxRecDepth 100000 in
theorem legal_is {s : ByteArray} (h1 : 1 ≤ s.size) (h2 : s.size ≤ 32) : legal s.data.toList = (s.data.toList.all okB && (s[s.size - 1]'(by omega) != 46)) := by
 unfold legal endsWell
 have : s.data.toList.length = s.size := by simp
 rw [this, decide_eq_true h1, decide_eq_true h2, last_get s h1]
 simp only [Bool.true_and]
 generalize s[s.size - 1]'(by omega) = c
 by_cases h : c = 46
 ·subst h; rfl
 ·rw [bne_iff_ne.2 h, bne_iff_ne.2 (fun h2 => h (Option.some.inj h2))]
set_option maxRecDepth 100000 in
set_option maxHeartbeats 1000000 in
theorem legal_any (s : ByteArray) (w : World) (hs : s.size ≤ 1000000) :
  Calls Tryz.prog 123 #[.string s] w fun e w' => e = .returned (.bool (legal s.data.toList)) ∧ w' = w := by
 by_cases h1 : s.size < 1
 ·have h1' : (s.size : Int) < 1 := by omega
  rw [legal_len (.inl h1)]
  go_enter Tryz.func123, Tryz.ntmps123
  go_wp2
  go_ret
  exact ⟨rfl, rfl⟩
 ·have h1' : ¬ (s.size : Int) < 1 := by omega
  by_cases h2 : 32 < s.size
  ·have h2' : (32 : Int) < (s.size : Int) := by omega
   rw [legal_len (.inr h2)]
   go_enter Tryz.func123, Tryz.ntmps123
   go_wp2
   go_ret
   exact ⟨rfl, rfl⟩
  ·have h2' : ¬ (32 : Int) < (s.size : Int) := by omega
   have hlast : s.size - 1 < s.size := by omega
   rw [legal_is (by omega) (by omega)]
   generalize hR : (s.data.toList.all okB && (s[s.size - 1] != 46)) = R
   replace hR := hide hR
   go_enter Tryz.func123, Tryz.ntmps123
   go_wp2
   go_loop [14] (fun vi => ∃ k : Nat, k ≤ s.size ∧ vi = .int .i64 k ∧ Hid ((s.data.toList.take k).all okB = true)) (fun vi => s.size - (intOf vi).toNat)
   case atStart => exact ⟨0, by omega, rfl, by show _ = _; simp⟩
   case round =>
    obtain ⟨k, hk, rfl, hn⟩ := hrel
    by_cases hlt : k < s.size
    ·have hlt' : (k : Int) < s.size := by omega
     have hst := stands_any s[k] w
     by_cases hc : okB s[k] = true
     ·rw [hc] at hst
      go_wp2_with (go_at_call 116; refine hst.mono ?_; rintro e w1 ⟨rfl, rfl⟩)
      go_round
      case rel => exact ⟨k + 1, by omega, by go_num, by show _ = _; rw [all_take s k hlt, hn.out, hc]; rfl⟩
      case measure => simp [intOf]; omega
     ·have hc' : okB s[k] = false := by simpa using hc
      rw [hc'] at hst
      go_wp2_with (go_at_call 116; refine hst.mono ?_; rintro e w1 ⟨rfl, rfl⟩)
      go_ret
      exact ⟨by rw [← hR.out, all_false hlt hc']; rfl, rfl⟩
    ·have hlt' : ¬ (k : Int) < s.size := by omega
     have hks : k = s.size := by omega
     have hall : s.data.toList.all okB = true := by
      have := hn.out
      rwa [List.take_of_length_le (by simp; omega)] at this
     go_wp2
     go_ret
     exact ⟨by rw [← hR.out, hall, ← ne46]; rfl, rfl⟩
end Go.Proofs.YtnbhchdaobimmaaGreatDoor
