/- Several texts in one: MerkleBytesMath, MerklePut. -/
import Derived.Test.YtoopaeahhbkncaaGreatDoorWirePure
import Derived.Test.YtoopaeahhbkncaaGreatDoorWireOut
import Derived.Test.YtoopaeahhbkncaaGreatDoorMerkleHashes
import Derived.Test.YtoopaeahhbkncaaGreatDoorMerkleCheck
import Derived.Test.YtoopaeahhbkncaaGreatDoorMerkleFilesWalk
/- Bytes of manifests and of shares, and both off a reader, as plain data. -/
namespace Go.Wire
theorem pad_self (x : ByteArray) (h : x.size = 32) : pad x.data.toList = x.data.toList := by
  rw [pad_done _ (by rw [← size_list]; omega), List.take_of_length_le (by rw [← size_list]; omega)]
/-- Texts, one behind the other. -/
def cat (xs : List ByteArray) : List UInt8 := (xs.map fun x => x.data.toList).flatten
theorem cat_app (xs ys : List ByteArray) : cat (xs ++ ys) = cat xs ++ cat ys := by unfold cat; rw [List.map_append, List.flatten_append]
theorem cat_one (x : ByteArray) : cat [x] = x.data.toList := by unfold cat; simp
theorem cat_pad : ∀ xs : List ByteArray, (∀ x ∈ xs, x.size = 32) → (xs.map fun s => pad s.data.toList).flatten = cat xs
  | [], _ => rfl
  | x :: xs, h => by
    rw [List.map_cons, List.flatten_cons, pad_self x (h x (by simp)), cat_pad xs (fun y hy => h y (by simp [hy]))]
    rfl
theorem cat_length : ∀ xs : List ByteArray, (∀ x ∈ xs, x.size = 32) → (cat xs).length = 32 * xs.length
  | [], _ => rfl
  | x :: xs, h => by
    have h1 := h x (by simp)
    rw [show cat (x :: xs) = x.data.toList ++ cat xs from rfl, List.length_append, cat_length xs (fun y hy => h y (by simp [hy])), ← size_list, List.length_cons]
    omega
theorem St.hashes_took (q : St) (hq : q.pos ≤ q.s.size) : ∀ n, (q.hashes n).1.err = 0 → Took q (cat (q.hashes n).2) (q.hashes n).1 ∧ ∀ x ∈ (q.hashes n).2, x.size = 32
  | 0, h => ⟨⟨rfl, h, h, rfl, hq, rfl⟩, fun x hx => by cases hx⟩
  | n + 1, h => by
    obtain ⟨a, b⟩ := St.bytes_took (q := (q.hashes n).1) (n := 32) (by decide) h
    obtain ⟨c, d⟩ := St.hashes_took q hq n a.e0
    have e : (q.hashes (n + 1)).2 = (q.hashes n).2 ++ [((q.hashes n).1.bytes 32).2] := rfl
    refine ⟨by rw [e, cat_app, cat_one]; exact c.trans a, fun x hx => ?_⟩
    rw [e] at hx
    rcases List.mem_append.1 hx with hx | hx
    · exact d x hx
    · rw [List.mem_singleton.1 hx]; omega
theorem At.hashes {q : St} {A C : List UInt8} (xs : List ByteArray) (h32 : ∀ x ∈ xs, x.size = 32) (h : At q A (cat xs ++ C)) : ∀ n, n ≤ xs.length → q.hashes n = (q.on (32 * n), xs.take n)
  | 0, _ => by
    show (q, []) = _
    rw [List.take_zero]
    have := h.err
    cases q
    simp only [St.on] at this ⊢
    simp [this]
  | n + 1, hn => by
    have hx : xs[n]? = some xs[n] := List.getElem?_eq_getElem (by omega)
    have ih := At.hashes xs h32 h n (by omega)
    have hz : xs[n].size = 32 := h32 _ (List.getElem_mem _)
    have hl : (cat (xs.take n)).length = 32 * n := by rw [cat_length _ (fun x hx => h32 x (List.mem_of_mem_take hx)), List.length_take_of_le (by omega)]
    have hs : xs = xs.take n ++ ([xs[n]] ++ xs.drop (n + 1)) := by
      rw [List.singleton_append, ← List.drop_eq_getElem_cons, List.take_append_drop]
    have h1 : At q A (cat (xs.take n) ++ (xs[n].data.toList ++ (cat (xs.drop (n + 1)) ++ C))) := by
      have h0 := h
      rw [hs, cat_app, cat_app, cat_one] at h0
      simpa only [List.append_assoc] using h0
    have h2 := h1.next
    rw [hl] at h2
    have h3 := At.bytes h2 32 (by rw [← size_list]; omega)
    show (((q.hashes n).1.bytes 32).1, (q.hashes n).2 ++ [((q.hashes n).1.bytes 32).2]) = _
    rw [ih, h3, List.take_add_one, hx]
    have e : (⟨xs[n].data.toList.toArray⟩ : ByteArray) = xs[n] := by apply ext_list; simp
    rw [e, ← size_list, hz]
    unfold St.on
    simp only [Option.toList_some, Prod.mk.injEq, and_true]
    rw [Nat.add_assoc, Nat.mul_add]
end Go.Wire
namespace Go.Mk
open Go.Wire
/-- A manifest's bytes. -/
def manBytes (size : Nat) (xs : List ByteArray) : List UInt8 := num 8 size ++ num 8 xs.length ++ cat xs
def d1 (s : ByteArray) : St × Nat := (St.mk s 0 0).count 8192
def d2 (s : ByteArray) : St × Nat := (d1 s).1.count 256
def d3 (s : ByteArray) : St × List ByteArray := (d2 s).1.hashes (d2 s).2
/-- The error of reading a manifest; none: nought. -/
def decE (s : ByteArray) : Int := if (d3 s).1.fin.err = 0 then chk (d1 s).2 (d3 s).2 else (d3 s).1.fin.err
theorem chk_zero {size : Int} {xs : List ByteArray} (h : chk size xs = 0) : Sized size xs.length ∧ ∀ s ∈ xs, s.size = 32 := by
  unfold chk at h
  split at h
  · assumption
  · cases h
theorem fin_zero {q : St} (h : q.fin.err = 0) : q.err = 0 ∧ q.s.size ≤ q.pos := by
  unfold St.fin at h
  split at h
  · cases h
  · exact ⟨h, by omega⟩
theorem d2_le (s : ByteArray) : (d2 s).1.pos ≤ (d2 s).1.s.size := by
  unfold d2 d1
  rw [St.count_s]
  refine St.count_le _ _ ?_
  rw [St.count_s]
  exact St.count_le _ _ (Nat.zero_le _)
theorem dec_man {s : ByteArray} (h : decE s = 0) : s = ⟨(manBytes (d1 s).2 (d3 s).2).toArray⟩ ∧ chk (d1 s).2 (d3 s).2 = 0 := by
  unfold decE at h
  by_cases hf : (d3 s).1.fin.err = 0
  · rw [if_pos hf] at h
    refine ⟨?_, h⟩
    obtain ⟨h1, h2⟩ := fin_zero hf
    obtain ⟨a, _⟩ := St.hashes_took (d2 s).1 (d2_le s) _ h1
    have b := St.count_took (q := (d1 s).1) a.e0
    have c := St.count_took (q := ⟨s, 0, 0⟩) (most := 8192) b.e0
    have hl : (d3 s).2.length = (d2 s).2 := St.hashes_length _ _
    have t := (c.trans b).trans a
    have hs : (d3 s).1.s = s := t.s
    rw [hs] at h2
    have := t.all h2
    unfold manBytes
    rw [hl]
    exact this
  · rw [if_neg hf] at h; exact absurd h hf
theorem man_dec {size : Int} {xs : List ByteArray} (h : chk size xs = 0) : ((d1 ⟨(manBytes size.toNat xs).toArray⟩).2 : Int) = size ∧ (d3 ⟨(manBytes size.toNat xs).toArray⟩).2 = xs ∧ decE ⟨(manBytes size.toNat xs).toArray⟩ = 0 := by
  obtain ⟨⟨z1, z2, z3, z4⟩, h32⟩ := chk_zero h
  have a : At ⟨⟨(manBytes size.toNat xs).toArray⟩, 0, 0⟩ [] (num 8 size.toNat ++ (num 8 xs.length ++ (cat xs ++ []))) := ⟨by simp [manBytes], rfl, rfl⟩
  have e1 : d1 ⟨(manBytes size.toNat xs).toArray⟩ = _ := At.count size.toNat 8192 (by omega) (by omega) a
  have b := a.next
  rw [num_length] at b
  have e2 : d2 ⟨(manBytes size.toNat xs).toArray⟩ = (((St.mk ⟨(manBytes size.toNat xs).toArray⟩ 0 0).on 8).on 8, xs.length) := by
    unfold d2; rw [e1]; exact At.count xs.length 256 (by omega) (by omega) b
  have c := b.next
  rw [num_length] at c
  have e3 : d3 ⟨(manBytes size.toNat xs).toArray⟩ = ((((St.mk ⟨(manBytes size.toNat xs).toArray⟩ 0 0).on 8).on 8).on (32 * xs.length), xs.take xs.length) := by
    unfold d3; rw [e2]; exact At.hashes xs h32 c xs.length (Nat.le_refl _)
  have hl := cat_length xs h32
  have e4 : (d3 ⟨(manBytes size.toNat xs).toArray⟩).1.fin.err = 0 := by
    rw [e3]
    unfold St.on St.fin
    dsimp only
    rw [if_neg]
    rintro ⟨_, h⟩
    simp [ByteArray.size, manBytes, num_length, hl] at h
    omega
  have e5 : ((d1 ⟨(manBytes size.toNat xs).toArray⟩).2 : Int) = size := by rw [e1]; show ((size.toNat : Nat) : Int) = size; omega
  have e6 : (d3 ⟨(manBytes size.toNat xs).toArray⟩).2 = xs := by rw [e3]; exact List.take_of_length_le (Nat.le_refl _)
  refine ⟨e5, e6, ?_⟩
  unfold decE
  rw [if_pos e4, e5, e6, h]
/-! ### Shares -/
/-- A share's bytes. -/
def shBytes (x : Sh) : List UInt8 := x.dg.data.toList ++ num 8 x.sz.toNat ++ num 8 x.mn.toNat ++ num 8 x.at_.toNat ++ (num 8 x.ck.size ++ x.ck.data.toList) ++ num 2 x.pa.length ++ cat x.pa
/-- What can be told so. -/
structure Tells (x : Sh) : Prop where
  dg : x.dg.size = 32
  sz : 0 ≤ x.sz ∧ x.sz < 4294967296
  mn : 0 ≤ x.mn ∧ x.mn < 4294967296
  at_ : 0 ≤ x.at_ ∧ x.at_ < 4294967296
  ck : x.ck.size < 4294967296
  pl : x.pa.length < 256
  pa : ∀ h ∈ x.pa, h.size = 32
abbrev MX : Int := 9223372036854775807
def t1 (q : St) : St × ByteArray := q.bytes 32
def t2 (q : St) : St × Nat := (t1 q).1.count MX
def t3 (q : St) : St × Nat := (t2 q).1.count MX
def t4 (q : St) : St × Nat := (t3 q).1.count MX
def t5 (q : St) : St × ByteArray := (t4 q).1.text MX
def t6 (q : St) : St × Nat := (t5 q).1.number 1
def t7 (q : St) : St × List ByteArray := (t6 q).1.hashes (t6 q).2
def Sh.zero : Sh := ⟨⟨#[]⟩, 0, 0, 0, ⟨#[]⟩, []⟩
def Sh.took (q : St) : Sh := ⟨(t1 q).2, (t2 q).2, (t3 q).2, (t4 q).2, (t5 q).2, (t7 q).2⟩
/-- A share off a reader. -/
def share (q : St) : St × Sh := ((t7 q).1, if (t7 q).1.err = 0 then Sh.took q else Sh.zero)
theorem t1_s (q : St) : (t1 q).1.s = q.s := St.bytes_s _ _
theorem t2_s (q : St) : (t2 q).1.s = q.s := (St.count_s _ _).trans (t1_s q)
theorem t3_s (q : St) : (t3 q).1.s = q.s := (St.count_s _ _).trans (t2_s q)
theorem t4_s (q : St) : (t4 q).1.s = q.s := (St.count_s _ _).trans (t3_s q)
theorem t5_s (q : St) : (t5 q).1.s = q.s := (St.text_s _ _).trans (t4_s q)
theorem t6_s (q : St) : (t6 q).1.s = q.s := (St.number_s _ _).trans (t5_s q)
theorem t7_s (q : St) : (t7 q).1.s = q.s := (St.hashes_s _ _).trans (t6_s q)
theorem t1_le (q : St) (h : q.pos ≤ q.s.size) : (t1 q).1.pos ≤ q.s.size := St.bytes_le q 32 h
theorem t2_le (q : St) (h : q.pos ≤ q.s.size) : (t2 q).1.pos ≤ q.s.size := by have := St.count_le (t1 q).1 MX (by rw [t1_s]; exact t1_le q h); rwa [t1_s] at this
theorem t3_le (q : St) (h : q.pos ≤ q.s.size) : (t3 q).1.pos ≤ q.s.size := by have := St.count_le (t2 q).1 MX (by rw [t2_s]; exact t2_le q h); rwa [t2_s] at this
theorem t4_le (q : St) (h : q.pos ≤ q.s.size) : (t4 q).1.pos ≤ q.s.size := by have := St.count_le (t3 q).1 MX (by rw [t3_s]; exact t3_le q h); rwa [t3_s] at this
theorem t5_le (q : St) (h : q.pos ≤ q.s.size) : (t5 q).1.pos ≤ q.s.size := by have := St.text_le (t4 q).1 MX (by rw [t4_s]; exact t4_le q h); rwa [t4_s] at this
theorem t6_le (q : St) (h : q.pos ≤ q.s.size) : (t6 q).1.pos ≤ q.s.size := by have := St.number_le (t5 q).1 1 (by rw [t5_s]; exact t5_le q h); rwa [t5_s] at this
theorem t7_le (q : St) (h : q.pos ≤ q.s.size) : (t7 q).1.pos ≤ q.s.size := by have := St.hashes_le (t6 q).1 (by rw [t6_s]; exact t6_le q h) (t6 q).2; rwa [t6_s] at this
theorem t6_lt (q : St) : (t6 q).2 < 256 := St.number_lt _ 1 (by decide)
/-- What was taken without an error is told by the bytes that were taken. -/
theorem share_took {q : St} (hq : q.pos ≤ q.s.size) (h : (share q).1.err = 0) : Took q (shBytes (share q).2) (share q).1 ∧ Tells (share q).2 := by
  have h7 : (t7 q).1.err = 0 := h
  obtain ⟨a7, b7⟩ := St.hashes_took (t6 q).1 (by rw [t6_s]; exact t6_le q hq) (t6 q).2 h7
  have a6 := St.number_took (q := (t5 q).1) (k := 1) (by decide) a7.e0
  have a5 := St.text_took (q := (t4 q).1) (most := MX) (by rw [t4_s]; exact t4_le q hq) a6.e0
  have a4 := St.count_took (q := (t3 q).1) (most := MX) a5.e0
  have a3 := St.count_took (q := (t2 q).1) (most := MX) a4.e0
  have a2 := St.count_took (q := (t1 q).1) (most := MX) a3.e0
  obtain ⟨a1, b1⟩ := St.bytes_took (q := q) (n := 32) (by decide) a2.e0
  have hl : (t7 q).2.length = (t6 q).2 := St.hashes_length _ _
  have hck : (t5 q).2.size < 4294967296 := by
    have h5 : (t5 q).1.err = 0 := a6.e0
    by_cases hc : ((t4 q).1.s.size : Int) - ((t4 q).1.count MX).1.pos < ((t4 q).1.count MX).2
    · have := St.text_cut (t4 q).1 MX (by rw [t4_s]; exact t4_le q hq) hc
      unfold t5 at h5
      rw [this] at h5
      exact absurd h5 (St.back_ne _ _ _ (by decide))
    · have e := St.text_ok (t4 q).1 MX hc
      have := St.bytes_size ((t4 q).1.count MX).1 ((t4 q).1.count MX).2
      have h3 := St.count_lt (t4 q).1 MX
      unfold t5
      rw [e]
      omega
  have hsh : share q = ((t7 q).1, Sh.took q) := by unfold share; rw [if_pos h7]
  rw [hsh]
  constructor
  · have := (((((a1.trans a2).trans a3).trans a4).trans a5).trans a6).trans a7
    show Took q (shBytes (Sh.took q)) (t7 q).1
    unfold shBytes Sh.took
    dsimp only
    rw [hl]
    exact this
  · have c2 := St.count_lt (t1 q).1 MX
    have c3 := St.count_lt (t2 q).1 MX
    have c4 := St.count_lt (t3 q).1 MX
    exact ⟨by show (t1 q).2.size = 32; unfold t1; omega, ⟨by show (0 : Int) ≤ ((t2 q).2 : Int); omega, by show ((t2 q).2 : Int) < _; unfold t2; omega⟩, ⟨by show (0 : Int) ≤ ((t3 q).2 : Int); omega, by show ((t3 q).2 : Int) < _; unfold t3; omega⟩, ⟨by show (0 : Int) ≤ ((t4 q).2 : Int); omega, by show ((t4 q).2 : Int) < _; unfold t4; omega⟩, hck, by show (t7 q).2.length < 256; rw [hl]; exact t6_lt q, b7⟩
theorem share_at {x : Sh} {q : St} {A C : List UInt8} (hx : Tells x) (h : At q A (shBytes x ++ C)) : share q = (q.on (shBytes x).length, x) := by
  obtain ⟨dg, sz, mn, at_, ck, pa⟩ := x
  obtain ⟨h1, h2, h3, h4, h5, h6, h7⟩ := hx
  dsimp only at h1 h2 h3 h4 h5 h6 h7
  have a : At q A (dg.data.toList ++ (num 8 sz.toNat ++ (num 8 mn.toNat ++ (num 8 at_.toNat ++ (num 8 ck.size ++ (ck.data.toList ++ (num 2 pa.length ++ (cat pa ++ C)))))))) := by
    have h0 := h
    unfold shBytes at h0
    simpa only [List.append_assoc] using h0
  have hdl : dg.data.toList.length = 32 := by rw [← size_list]; exact h1
  have hde : (⟨dg.data.toList.toArray⟩ : ByteArray) = dg := by apply ext_list; simp
  have e1 : t1 q = (q.on 32, dg) := by
    have := At.bytes a 32 (by omega)
    rw [hdl, hde] at this
    exact this
  have a2 := a.next
  rw [hdl] at a2
  have e2 : t2 q = ((q.on 32).on 8, sz.toNat) := by unfold t2; rw [e1]; exact At.count sz.toNat MX (by omega) (by unfold MX; omega) a2
  have a3 := a2.next
  rw [num_length] at a3
  have e3 : t3 q = (((q.on 32).on 8).on 8, mn.toNat) := by unfold t3; rw [e2]; exact At.count mn.toNat MX (by omega) (by unfold MX; omega) a3
  have a4 := a3.next
  rw [num_length] at a4
  have e4 : t4 q = ((((q.on 32).on 8).on 8).on 8, at_.toNat) := by unfold t4; rw [e3]; exact At.count at_.toNat MX (by omega) (by unfold MX; omega) a4
  have a5 := a4.next
  rw [num_length] at a5
  have e5 : t5 q = (((((q.on 32).on 8).on 8).on 8).on (8 + ck.size), ck) := by unfold t5; rw [e4]; exact At.text ck MX (by omega) (by unfold MX; omega) a5
  have a6' := a5
  rw [← List.append_assoc (num 8 ck.size)] at a6'
  have a6 := a6'.next
  rw [List.length_append, num_length, ← size_list] at a6
  have e6 : t6 q = ((((((q.on 32).on 8).on 8).on 8).on (8 + ck.size)).on 2, pa.length) := by unfold t6; rw [e5]; exact At.number 1 pa.length (by decide) (by omega) a6
  have a7 := a6.next
  rw [num_length] at a7
  have e7 : t7 q = (((((((q.on 32).on 8).on 8).on 8).on (8 + ck.size)).on 2).on (32 * pa.length), pa.take pa.length) := by unfold t7; rw [e6]; exact At.hashes pa h7 a7 pa.length (Nat.le_refl _)
  have hl := cat_length pa h7
  have hall : (shBytes ⟨dg, sz, mn, at_, ck, pa⟩).length = 32 + 8 + 8 + 8 + (8 + ck.size) + 2 + 32 * pa.length := by
    unfold shBytes
    simp only [List.length_append, num_length, hl, ← size_list, h1]
  have he : (t7 q).1.err = 0 := by rw [e7]; rfl
  unfold share
  rw [if_pos he]
  unfold Sh.took
  rw [e1, e2, e3, e4, e5, e7, hall]
  dsimp only
  rw [List.take_of_length_le (Nat.le_refl _)]
  refine Prod.ext ?_ ?_
  · unfold St.on
    simp only [St.mk.injEq, true_and, and_true]
    omega
  · have g2 : ((sz.toNat : Nat) : Int) = sz := by omega
    have g3 : ((mn.toNat : Nat) : Int) = mn := by omega
    have g4 : ((at_.toNat : Nat) : Int) = at_ := by omega
    simp only [g2, g3, g4]
end Go.Mk
/- Contracts: a share put, and taken, the program's. -/
namespace Go.Mk
open Go.RowKit Go.Wire
/-- A struct in block g is being put into the writer v, which has l. -/
structure PutSt (T S B g : Nat) (v : Value) (cs : Array Value) (w0 : World) (l : List UInt8) (w : World) : Prop where
  hw : WAt T B v l w
  ho : w.heap[g]? = some (.cells cs S (0, 0))
  hB : B ≤ w.heap.size
  wrote : Wrote B v w0 w
theorem PutSt.step {T S B g : Nat} {v : Value} {cs : Array Value} {w0 w w' : World} {l l' : List UInt8} (i : PutSt T S B g v cs w0 l w) (hv : v ≠ .pointer (some ⟨g, 0, none⟩)) (hS : S ≠ 5) (h : WAt T B v l' w') (k : Wrote B v w w') : PutSt T S B g v cs w0 l' w' :=
  ⟨h, k.row hv hS i.ho, Nat.le_trans i.hB k.below.size, i.wrote.trans k⟩
theorem wat_other {T B g : Nat} {v : Value} {l : List UInt8} {w : World} (h : WAt T B v l w) (hg : w.heap.size ≤ g) : v ≠ .pointer (some ⟨g, 0, none⟩) := by
  rintro rfl
  rcases h with h | ⟨b, h, hr⟩
  · cases h
  · obtain rfl : g = b := by simpa using h
    obtain ⟨_, _, _, _, hb, _⟩ := hr
    have := row_lt hb
    omega
/-- While a share is taken: the reader in block b, what is answered in block g, the share in block h. -/
structure TkSt (T S b g h : Nat) (zs : Array Value) (w0 : World) (q : St) (cs : Array Value) (w : World) : Prop where
  rd : Rd T b q w
  z : w.heap[g]? = some (.cells zs S (0, 0))
  o : w.heap[h]? = some (.cells cs S (0, 0))
  kept : Kept b w0 w
  hb : b < w0.heap.size
  hg : w0.heap.size = g
  hh : w0.heap.size < h
theorem TkSt.start {T S b : Nat} {zs : Array Value} {q r : St} {w w3 : World} (h : Rd T b q w) (kc : Kept b (w.alloc (.cells zs S)) w3) (h3 : Rd T b r w3) (cs : Array Value) :
    TkSt T S b w.heap.size w3.heap.size zs w r cs (w3.alloc (.cells cs S)) := by
  have hlt := h.lt
  have ka : Kept b w (w.alloc (.cells zs S)) := Kept.of_below ((Below.refl _ _).alloc (Nat.le_refl _) _) hlt
  have kb : Kept b w w3 := ka.trans kc
  have hz : w3.heap[w.heap.size]? = some (.cells zs S (0, 0)) := (kc.other w.heap.size (by omega) (by simp)).trans (heap_alloc_new _ _)
  have hs := row_lt hz
  exact ⟨h3.of_heap (heap_alloc_old w3 _ h3.lt), kept_alloc hz _, heap_alloc_new _ _, kb.trans (Kept.of_below ((Below.refl _ _).alloc (Nat.le_refl _) _) h3.lt), hlt, rfl, hs⟩
theorem TkSt.read {T S b g h : Nat} {zs cs : Array Value} {w0 w w' : World} {q q' : St} (i : TkSt T S b g h zs w0 q cs w) (r : Rd T b q' w') (k : Kept b w w') : TkSt T S b g h zs w0 q' cs w' := by
  have := i.hb
  have := i.hg
  have := i.hh
  exact ⟨r, (k.other g (by omega) (row_lt i.z)).trans i.z, (k.other h (by omega) (row_lt i.o)).trans i.o, i.kept.trans k, i.hb, i.hg, i.hh⟩
theorem TkSt.below {T S b g h : Nat} {zs cs : Array Value} {w0 w w' : World} {q : St} (i : TkSt T S b g h zs w0 q cs w) (k : Below w.heap.size w w') : TkSt T S b g h zs w0 q cs w' :=
  ⟨i.rd.of_heap (k.block _ i.rd.lt), kept_block i.z k, kept_block i.o k, i.kept.trans (Kept.of_below k i.rd.lt), i.hb, i.hg, i.hh⟩
theorem TkSt.set {T S b g h : Nat} {zs cs : Array Value} {w0 w : World} {q : St} (i : TkSt T S b g h zs w0 q cs w) (j : Nat) (v : Value) (cs' : Array Value) (e : (w.setCell ⟨h, j, none⟩ v).heap[h]? = some (.cells cs' S (0, 0))) : TkSt T S b g h zs w0 q cs' (w.setCell ⟨h, j, none⟩ v) := by
  have := i.hb
  have := i.hg
  have := i.hh
  exact ⟨i.rd.of_heap (Below.heap_setCell _ ⟨h, j, none⟩ v b (by show b ≠ h; omega)), (Below.heap_setCell _ ⟨h, j, none⟩ v g (by show g ≠ h; omega)).trans i.z, e, i.kept.setNew i.hb (by omega) _ _, i.hb, i.hg, i.hh⟩
theorem kept_row {b g : Nat} {w w' : World} (h : Kept b w w') (hb : b < w.heap.size) (hg : w.heap.size ≤ g) (cs : Array Value) : Kept b w (w'.setRow g cs) :=
  ⟨h.below.trans ⟨rfl, rfl, rfl, by simp, fun k hk => setRow_other _ _ _ _ (by omega)⟩, fun k hk hl => (setRow_other _ _ _ _ (by omega)).trans (h.other k hk hl)⟩
theorem TkSt.done {T S b g h : Nat} {zs cs : Array Value} {w0 w : World} {q : St} (i : TkSt T S b g h zs w0 q cs w) (ds : Array Value) : Rd T b q (w.setRow g ds) ∧ Kept b w0 (w.setRow g ds) ∧ (w.setRow g ds).heap[g]? = some (.cells ds S (0, 0)) := by
  have := i.hb
  have := i.hg
  exact ⟨i.rd.of_heap (setRow_other _ _ _ _ (by omega)), kept_row i.kept i.hb (by omega) _, setRow_heap _ _ _ _ _ _ i.z⟩
theorem own_setRow {w : World} {base e g n : Nat} {v : Value} {xs : List Value} (h : w.ownsRow base e 1 v n xs) (hg : g < base) (ds : Array Value) : (w.setRow g ds).ownsRow base e 1 v n xs := by
  refine ⟨h.1, ?_⟩
  rcases h.2 with h | ⟨k, cap, cur, h1, h2, h3, h4⟩
  · exact .inl h
  · exact .inr ⟨k, cap, cur, h1, h2, (setRow_other _ _ _ _ (by omega)).trans h3, h4⟩
theorem own_setCell {w : World} {base e g n j : Nat} {v u : Value} {xs : List Value} (h : w.ownsRow base e 1 v n xs) (hg : g < base) : (w.setCell ⟨g, j, none⟩ u).ownsRow base e 1 v n xs := by
  refine ⟨h.1, ?_⟩
  rcases h.2 with h | ⟨k, cap, cur, h1, h2, h3, h4⟩
  · exact .inl h
  · exact .inr ⟨k, cap, cur, h1, h2, (Below.heap_setCell _ ⟨g, j, none⟩ u k (by show k ≠ g; omega)).trans h3, h4⟩
end Go.Mk
namespace Go.Proofs.YtoopaeahhbkncaaGreatDoor
open Go.RowKit Go.Shelf Go.Wire Go.Mk Go.Chunk
attribute [local go_sem] Oper.semAt_some
set_option maxRecDepth 100000 in
set_option maxHeartbeats 1000000 in
theorem put9_any (B : Nat) (v pv : Value) (l : List UInt8) (x : Sh) (w : World) (h : WAt 59 B v l w) (hl : l.length + 5000000000 ≤ 140737488355328) (hB : B ≤ w.heap.size) (ht : Tells x) (hR : ∀ w', Below B w w' → StrRow.Reads w' pv x.pa) :
    Calls Tryz.prog 10 #[v, x.v pv] w fun e w' => e = .returned (.tuple #[]) ∧ WAt 59 B v (l ++ shBytes x) w' ∧ Below B w w' := by
  obtain ⟨dg, sz, mn, at_, ck, pa⟩ := x
  obtain ⟨h1, h2, h3, h4, h5, h6, h7⟩ := ht
  dsimp only at h1 h2 h3 h4 h5 h6 h7 hR
  obtain ⟨sz, rfl⟩ : ∃ c' : Nat, sz = c' := ⟨sz.toNat, by omega⟩
  obtain ⟨mn, rfl⟩ : ∃ c' : Nat, mn = c' := ⟨mn.toNat, by omega⟩
  obtain ⟨at_, rfl⟩ : ∃ c' : Nat, at_ = c' := ⟨at_.toNat, by omega⟩
  obtain ⟨a, c, rfl⟩ := (hR w (Below.refl _ _)).form
  have I : Hid (PutSt 59 27 B w.heap.size v #[.string dg, .int .i64 sz, .int .i64 mn, .int .i64 at_, .string ck, .slice a pa.length c] w l (w.alloc (.cells #[.string dg, .int .i64 sz, .int .i64 mn, .int .i64 at_, .string ck, .slice a pa.length c] 27))) :=
    ⟨h.below ((Below.refl _ _).alloc (Nat.le_refl _) _), heap_alloc_new _ _, by simp; omega, Wrote.of ((Below.refl _ _).alloc (Nat.le_refl _) _) hB⟩
  have HV : v ≠ .pointer (some ⟨w.heap.size, 0, none⟩) := wat_other h (Nat.le_refl _)
  have el : l ++ shBytes ⟨dg, sz, mn, at_, ck, pa⟩ = l ++ dg.data.toList ++ num 8 sz ++ num 8 mn ++ num 8 at_ ++ (num 8 ck.size ++ ck.data.toList) ++ num 2 pa.length ++ (pa.map fun s => pad s.data.toList).flatten := by
    unfold shBytes
    dsimp only
    rw [cat_pad pa h7]
    simp only [List.append_assoc, Int.toNat_natCast]
  rw [el]
  clear el h
  have hz1 := h2.2
  have hz2 := h3.2
  have hz3 := h4.2
  have HHa : Hid (∀ (L : List UInt8) (w1 : World), PutSt 59 27 B w.heap.size v #[.string dg, .int .i64 sz, .int .i64 mn, .int .i64 at_, .string ck, .slice a pa.length c] w L w1 → L.length ≤ l.length + 4900000000 → Calls Tryz.prog 26 #[v, .string dg] w1 fun e w' => e = .returned (.tuple #[]) ∧ PutSt 59 27 B w.heap.size v #[.string dg, .int .i64 sz, .int .i64 mn, .int .i64 at_, .string ck, .slice a pa.length c] w (L ++ dg.data.toList) w') := fun L w1 j hL =>
    (whash_sp B v L dg w1 j.hw (.inr (by omega)) j.hB).mono fun e w' ⟨a, b, c⟩ => ⟨a, j.step HV (by decide) (by rw [pad_self dg h1] at b; exact b) c⟩
  have HCo : Hid (∀ (n : Nat) (L : List UInt8) (w1 : World), PutSt 59 27 B w.heap.size v #[.string dg, .int .i64 sz, .int .i64 mn, .int .i64 at_, .string ck, .slice a pa.length c] w L w1 → L.length ≤ l.length + 4900000000 → (n : Int) < 4294967296 → Calls Tryz.prog 27 #[v, .int .i64 n] w1 fun e w' => e = .returned (.tuple #[]) ∧ PutSt 59 27 B w.heap.size v #[.string dg, .int .i64 sz, .int .i64 mn, .int .i64 at_, .string ck, .slice a pa.length c] w (L ++ num 8 n) w') := fun n L w1 j hL hn =>
    (wcount_sp B v L n w1 j.hw (.inr (by omega)) j.hB (by omega)).mono fun e w' ⟨a, b, c⟩ => ⟨a, j.step HV (by decide) (by rw [show (max (n : Int) 0).toNat = n by omega] at b; exact b) c⟩
  have HTx : Hid (∀ (L : List UInt8) (w1 : World), PutSt 59 27 B w.heap.size v #[.string dg, .int .i64 sz, .int .i64 mn, .int .i64 at_, .string ck, .slice a pa.length c] w L w1 → L.length ≤ l.length + 100 → Calls Tryz.prog 28 #[v, .string ck] w1 fun e w' => e = .returned (.tuple #[]) ∧ PutSt 59 27 B w.heap.size v #[.string dg, .int .i64 sz, .int .i64 mn, .int .i64 at_, .string ck, .slice a pa.length c] w (L ++ (num 8 ck.size ++ ck.data.toList)) w') := fun L w1 j hL =>
    (wtext_sp B v L ck w1 j.hw (.inr (by omega)) j.hB (by unfold maxLen; omega)).mono fun e w' ⟨a, b, c⟩ => ⟨a, j.step HV (by decide) b c⟩
  have HNu : Hid (∀ (L : List UInt8) (w1 : World), PutSt 59 27 B w.heap.size v #[.string dg, .int .i64 sz, .int .i64 mn, .int .i64 at_, .string ck, .slice a pa.length c] w L w1 → L.length ≤ l.length + 4900000000 → Calls Tryz.prog 29 #[v, .int .u64 pa.length, .int .i64 1] w1 fun e w' => e = .returned (.tuple #[]) ∧ PutSt 59 27 B w.heap.size v #[.string dg, .int .i64 sz, .int .i64 mn, .int .i64 at_, .string ck, .slice a pa.length c] w (L ++ num 2 pa.length) w') := fun L w1 j hL =>
    (wnumber_sp B v L pa.length 1 w1 j.hw (.inr (by omega)) j.hB (by omega)).mono fun e w' ⟨a, b, c⟩ => ⟨a, j.step HV (by decide) b c⟩
  have HPH : Hid (∀ (L : List UInt8) (w1 : World), PutSt 59 27 B w.heap.size v #[.string dg, .int .i64 sz, .int .i64 mn, .int .i64 at_, .string ck, .slice a pa.length c] w L w1 → L.length ≤ l.length + 4900000000 → Calls Tryz.prog 30 #[v, .slice a pa.length c] w1 fun e w' => e = .returned (.tuple #[]) ∧ WAt 59 B v (L ++ (pa.map fun s => pad s.data.toList).flatten) w' ∧ Below B w w') := fun L w1 j hL =>
    (putHashes_any B v (.slice a pa.length c) L pa w1 j.hw (.inr (by omega)) j.hB (by omega) (fun w' k => hR w' (j.wrote.below.trans k))).mono fun e w' ⟨a, b, d⟩ => ⟨a, b, j.wrote.below.trans d⟩
  have hw1 : IntKind.u64.wrap (pa.length : Int) = pa.length := by rw [wrap_u64]; omega
  clear hR hB HV h7
  have hd1 : dg.data.toList.length = 32 := by rw [← size_list]; exact h1
  have hc1 : ck.data.toList.length = ck.size := (size_list ck).symm
  dsimp only [Sh.v]
  go_enter Tryz.func10, Tryz.ntmps10
  go_wp2_with (first
    | (go_at_call 26; refine (HHa.out _ _ I.out (by omega)).mono ?_; rintro e w1 ⟨rfl, i⟩; replace I : Hid _ := i; clear i; obtain ⟨c0, c1, c2, c3, c4, c5⟩ := cells6 I.out.ho)
    | (go_at_call 27; refine (HCo.out _ _ _ I.out (by simp only [List.length_append, num_length]; omega) (by omega)).mono ?_; rintro e w1 ⟨rfl, i⟩; replace I : Hid _ := i; clear i c0 c1 c2 c3 c4 c5; obtain ⟨c0, c1, c2, c3, c4, c5⟩ := cells6 I.out.ho)
    | (go_at_call 28; refine (HTx.out _ _ I.out (by simp only [List.length_append, num_length]; omega)).mono ?_; rintro e w1 ⟨rfl, i⟩; replace I : Hid _ := i; clear i c0 c1 c2 c3 c4 c5; obtain ⟨c0, c1, c2, c3, c4, c5⟩ := cells6 I.out.ho)
    | (go_at_call 29; refine (HNu.out _ _ I.out (by simp only [List.length_append, num_length]; omega)).mono ?_; rintro e w1 ⟨rfl, i⟩; replace I : Hid _ := i; clear i c0 c1 c2 c3 c4 c5; obtain ⟨c0, c1, c2, c3, c4, c5⟩ := cells6 I.out.ho)
    | (go_at_call 30; refine (HPH.out _ _ I.out (by simp only [List.length_append, num_length]; omega)).mono ?_; rintro e w1 ⟨rfl, i⟩; have J : Hid _ := i; clear i))
  go_end0
  exact ⟨rfl, J.out.1, J.out.2⟩
end Go.Proofs.YtoopaeahhbkncaaGreatDoor
