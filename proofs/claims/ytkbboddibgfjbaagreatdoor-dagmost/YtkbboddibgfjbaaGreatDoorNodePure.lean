/- Several texts in one: HashesMath, NodeMath. -/
import Derived.Test.YtkbboddibgfjbaaGreatDoorWirePure
import Derived.Test.YtkbboddibgfjbaaGreatDoorWireOut
/- Digests one behind the other, put and off a reader, as plain data; no program text is named here. -/
namespace Go.Wire
theorem pad32 (l : List UInt8) : (pad l).length = 32 := by
  unfold pad
  rw [List.length_append, List.length_take, List.length_replicate]
  omega
theorem flat32 : ∀ xs : List ByteArray, ((xs.map fun s => pad s.data.toList).flatten).length = 32 * xs.length
  | [] => rfl
  | x :: xs => by
    rw [List.map_cons, List.flatten_cons, List.length_append, pad32, flat32 xs, List.length_cons]
    omega
/-- So many digests off a reader. -/
def St.hashes (q : St) : Nat → St × List ByteArray
  | 0 => (q, [])
  | n + 1 => (((q.hashes n).1.bytes 32).1, (q.hashes n).2 ++ [((q.hashes n).1.bytes 32).2])
theorem St.hashes_s (q : St) : ∀ n, (q.hashes n).1.s = q.s
  | 0 => rfl
  | n + 1 => by
    show ((q.hashes n).1.bytes 32).1.s = q.s
    rw [St.bytes_s, St.hashes_s q n]
theorem St.hashes_le (q : St) (h : q.pos ≤ q.s.size) : ∀ n, (q.hashes n).1.pos ≤ q.s.size
  | 0 => h
  | n + 1 => by
    have := St.bytes_le (q.hashes n).1 32 (by rw [St.hashes_s]; exact St.hashes_le q h n)
    rw [St.hashes_s] at this
    exact this
theorem St.hashes_length (q : St) : ∀ n, (q.hashes n).2.length = n
  | 0 => rfl
  | n + 1 => by
    show ((q.hashes n).2 ++ [_]).length = n + 1
    rw [List.length_append, St.hashes_length q n]; rfl
theorem St.hashes_stuck (q : St) (m : Nat) (h : (q.hashes m).1.err ≠ 0) : ∀ k, (q.hashes (m + k)).1 = (q.hashes m).1
  | 0 => rfl
  | k + 1 => by
    show ((q.hashes (m + k)).1.bytes 32).1 = _
    rw [St.hashes_stuck q m h k, St.bytes_err _ _ h]
theorem pad_self (x : ByteArray) (h : x.size = 32) : pad x.data.toList = x.data.toList := by
  have hl : x.data.toList.length = 32 := by rw [← size_list]; exact h
  unfold pad
  rw [List.take_of_length_le (by omega), hl, Nat.sub_self, List.replicate_zero, List.append_nil]
/-- Texts, one behind the other. -/
def cat (xs : List ByteArray) : List UInt8 := (xs.map fun x => x.data.toList).flatten
theorem cat_app (xs ys : List ByteArray) : cat (xs ++ ys) = cat xs ++ cat ys := by unfold cat; rw [List.map_append, List.flatten_append]
theorem cat_one (x : ByteArray) : cat [x] = x.data.toList := by unfold cat; simp
theorem cat_pad : ∀ xs : List ByteArray, (∀ x ∈ xs, x.size = 32) → (xs.map fun s => pad s.data.toList).flatten = cat xs
  | [], _ => rfl
  | x :: xs, h => by
    rw [List.map_cons, List.flatten_cons, pad_self x (h x (by simp)), cat_pad xs (fun y hy => h y (by simp [hy]))]
    rfl
theorem cat_length : ∀ xs : List ByteArray, (∀ x ∈ xs, x.size = 32) → (cat xs).length = 32 * xs.length
  | [], _ => rfl
  | x :: xs, h => by
    have h1 := h x (by simp)
    rw [show cat (x :: xs) = x.data.toList ++ cat xs from rfl, List.length_append, cat_length xs (fun y hy => h y (by simp [hy])), ← size_list, List.length_cons]
    omega
theorem St.hashes_took (q : St) (hq : q.pos ≤ q.s.size) : ∀ n, (q.hashes n).1.err = 0 → Took q (cat (q.hashes n).2) (q.hashes n).1 ∧ ∀ x ∈ (q.hashes n).2, x.size = 32
  | 0, h => ⟨⟨rfl, h, h, rfl, hq, rfl⟩, fun x hx => by cases hx⟩
  | n + 1, h => by
    obtain ⟨a, b⟩ := St.bytes_took (q := (q.hashes n).1) (n := 32) (by decide) h
    obtain ⟨c, d⟩ := St.hashes_took q hq n a.e0
    have e : (q.hashes (n + 1)).2 = (q.hashes n).2 ++ [((q.hashes n).1.bytes 32).2] := rfl
    refine ⟨by rw [e, cat_app, cat_one]; exact c.trans a, fun x hx => ?_⟩
    rw [e] at hx
    rcases List.mem_append.1 hx with hx | hx
    · exact d x hx
    · rw [List.mem_singleton.1 hx]; omega
theorem At.hashes {q : St} {A C : List UInt8} (xs : List ByteArray) (h32 : ∀ x ∈ xs, x.size = 32) (h : At q A (cat xs ++ C)) : ∀ n, n ≤ xs.length → q.hashes n = (q.on (32 * n), xs.take n)
  | 0, _ => by
    show (q, []) = _
    rw [List.take_zero]
    have := h.err
    cases q
    simp only [St.on] at this ⊢
    simp [this]
  | n + 1, hn => by
    have hx : xs[n]? = some xs[n] := List.getElem?_eq_getElem (by omega)
    have ih := At.hashes xs h32 h n (by omega)
    have hz : xs[n].size = 32 := h32 _ (List.getElem_mem _)
    have hl : (cat (xs.take n)).length = 32 * n := by rw [cat_length _ (fun x hx => h32 x (List.mem_of_mem_take hx)), List.length_take_of_le (by omega)]
    have hs : xs = xs.take n ++ ([xs[n]] ++ xs.drop (n + 1)) := by
      rw [List.singleton_append, ← List.drop_eq_getElem_cons, List.take_append_drop]
    have h1 : At q A (cat (xs.take n) ++ (xs[n].data.toList ++ (cat (xs.drop (n + 1)) ++ C))) := by
      have h0 := h
      rw [hs, cat_app, cat_app, cat_one] at h0
      simpa only [List.append_assoc] using h0
    have h2 := h1.next
    rw [hl] at h2
    have h3 := At.bytes h2 32 (by rw [← size_list]; omega)
    show (((q.hashes n).1.bytes 32).1, (q.hashes n).2 ++ [((q.hashes n).1.bytes 32).2]) = _
    rw [ih, h3, List.take_add_one, hx]
    have e : (⟨xs[n].data.toList.toArray⟩ : ByteArray) = xs[n] := by apply ext_list; simp
    rw [e, ← size_list, hz]
    unfold St.on
    simp only [Option.toList_some, Prod.mk.injEq, and_true]
    rw [Nat.add_assoc, Nat.mul_add]
end Go.Wire
/- Nodes, as plain data: which may be, their bytes, and nodes off a reader; no program text is named here. -/
namespace Go.Nod
open Go.Wire Go.Stamp Go.Opn
/-- A node. -/
structure Nd where
  au : Int
  ps : List ByteArray
  op : Ob
  tg : ByteArray
def less (a b : ByteArray) : Bool := Go.Op.bytesLess a.toList b.toList
/-- May the digest at a place be there? -/
def okAt (ps : List ByteArray) (i : Nat) : Bool := (ps.getD i ⟨#[]⟩).size == 32 && (i == 0 || less (ps.getD (i - 1) ⟨#[]⟩) (ps.getD i ⟨#[]⟩))
def risesTo (ps : List ByteArray) : Nat → Bool
  | 0 => true
  | n + 1 => risesTo ps n && okAt ps n
def rises (ps : List ByteArray) : Bool := decide (ps.length ≤ 8) && risesTo ps ps.length
theorem risesTo_at {ps : List ByteArray} : ∀ {n : Nat}, risesTo ps n = true → ∀ i, i < n → okAt ps i = true
  | 0, _, i, hi => by omega
  | n + 1, h, i, hi => by
    simp only [risesTo, Bool.and_eq_true] at h
    rcases Nat.lt_succ_iff_lt_or_eq.1 hi with hl | rfl
    · exact risesTo_at h.1 i hl
    · exact h.2
theorem risesTo_not {ps : List ByteArray} {i : Nat} (h : okAt ps i = false) : ∀ {n : Nat}, i < n → risesTo ps n = false
  | 0, hi => by omega
  | n + 1, hi => by
    show (risesTo ps n && okAt ps n) = false
    rcases Nat.lt_succ_iff_lt_or_eq.1 hi with hl | rfl
    · rw [risesTo_not h hl, Bool.false_and]
    · rw [h, Bool.and_false]
theorem rises_few {ps : List ByteArray} (h : rises ps = true) : ps.length ≤ 8 := by
  unfold rises at h
  rw [Bool.and_eq_true] at h
  exact of_decide_eq_true h.1
theorem rises_32 {ps : List ByteArray} (h : rises ps = true) : ∀ x ∈ ps, x.size = 32 := by
  unfold rises at h
  rw [Bool.and_eq_true] at h
  intro x hx
  obtain ⟨i, hi, rfl⟩ := List.getElem_of_mem hx
  have := risesTo_at h.2 i hi
  unfold okAt at this
  rw [Bool.and_eq_true, List.getD_eq_getElem?_getD, List.getElem?_eq_getElem hi] at this
  simpa using this.1
/-- What Check answers. -/
def Nd.chk (n : Nd) : Int := if (rises n.ps && n.tg.size == 32) = true then (if n.op.chk = 0 then (if n.op.tm.k = n.au then 0 else 6) else n.op.chk) else 6
theorem Nd.chk_no {n : Nd} (h : (rises n.ps && n.tg.size == 32) = false) : n.chk = 6 := by unfold Nd.chk; rw [if_neg (by rw [h]; decide)]
theorem Nd.chk_op {n : Nd} (h : (rises n.ps && n.tg.size == 32) = true) (g : n.op.chk ≠ 0) : n.chk = n.op.chk := by unfold Nd.chk; rw [if_pos h, if_neg g]
theorem Nd.chk_who {n : Nd} (h : (rises n.ps && n.tg.size == 32) = true) (g : n.op.chk = 0) (k : n.op.tm.k ≠ n.au) : n.chk = 6 := by unfold Nd.chk; rw [if_pos h, if_pos g, if_neg k]
theorem Nd.chk_ok {n : Nd} (h : (rises n.ps && n.tg.size == 32) = true) (g : n.op.chk = 0) (k : n.op.tm.k = n.au) : n.chk = 0 := by unfold Nd.chk; rw [if_pos h, if_pos g, if_pos k]
/-- A node that may be. -/
structure Nd.Good (n : Nd) : Prop where
  rise : rises n.ps = true
  tag : n.tg.size = 32
  ok : n.op.tm.Ok
  good : n.op.Good
  who : n.op.tm.k = n.au
theorem Nd.chk_zero {n : Nd} (h : n.chk = 0) : n.Good := by
  unfold Nd.chk at h
  split at h
  · rename_i h1
    rw [Bool.and_eq_true] at h1
    split at h
    · rename_i h2
      split at h
      · rename_i h3
        obtain ⟨a, b⟩ := Ob.chk_zero h2
        exact ⟨h1.1, by simpa using h1.2, a, b, h3⟩
      · cases h
    · rename_i h2
      exact absurd h h2
  · cases h
theorem Nd.Good.chk {n : Nd} (h : n.Good) : n.chk = 0 := Nd.chk_ok (by rw [h.rise, h.tag]; rfl) (Ob.chk_ok h.ok h.good) h.who
/-- What a node's tag is of. -/
def Nd.body (n : Nd) : List UInt8 := num 2 n.au.toNat ++ num 2 n.ps.length ++ cat n.ps ++ n.op.bytes
def Nd.bodyB (n : Nd) : ByteArray := ⟨n.body.toArray⟩
def Nd.bytesB (n : Nd) : ByteArray := ⟨(n.body ++ n.tg.data.toList).toArray⟩
theorem Nd.bodyB_list (n : Nd) : n.bodyB.data.toList = n.body := by simp [Nd.bodyB]
theorem Nd.Good.au {n : Nd} (h : n.Good) : 0 ≤ n.au ∧ n.au < 16 := by
  have := h.ok
  unfold Tm.Ok at this
  rw [← h.who]
  omega
theorem Nd.Good.few {n : Nd} (h : n.Good) : n.ps.length ≤ 8 := rises_few h.rise
theorem Nd.Good.all {n : Nd} (h : n.Good) : ∀ x ∈ n.ps, x.size = 32 := rises_32 h.rise
theorem Nd.Good.length {n : Nd} (h : n.Good) : n.body.length ≤ 400 := by
  have h1 := Ob.bytes_length (Ob.good_is h.good)
  have h2 := cat_length n.ps h.all
  have h3 := h.few
  unfold Nd.body
  simp only [List.length_append, num_length]
  omega
theorem Nd.Good.size {n : Nd} (h : n.Good) : n.bodyB.size ≤ 400 := by rw [size_list, Nd.bodyB_list]; exact h.length
/-! ### A node off a reader -/
def n1 (q : St) : St × Nat := q.number 1
def n2 (q : St) : St × Nat := (n1 q).1.number 1
def n3 (q : St) : St × List ByteArray := if 8 < (n2 q).2 then ((n2 q).1.fail 3, []) else (n2 q).1.hashes (n2 q).2
def n4 (q : St) : St × Ob := (n3 q).1.op
def n5 (q : St) : St × ByteArray := (n4 q).1.bytes 32
/-- The node that was read, of an error as well. -/
def raw (q : St) : Nd := ⟨(n1 q).2, (n3 q).2, (n4 q).2, (n5 q).2⟩
theorem n1_s (q : St) : (n1 q).1.s = q.s := St.number_s _ _
theorem n2_s (q : St) : (n2 q).1.s = q.s := (St.number_s _ _).trans (n1_s q)
theorem n3_s (q : St) : (n3 q).1.s = q.s := by
  unfold n3
  split
  · exact (St.fail_s _ _).trans (n2_s q)
  · exact (St.hashes_s _ _).trans (n2_s q)
theorem n4_s (q : St) : (n4 q).1.s = q.s := (St.op_s _).trans (n3_s q)
theorem n5_s (q : St) : (n5 q).1.s = q.s := (St.bytes_s _ _).trans (n4_s q)
theorem n1_le (q : St) (h : q.pos ≤ q.s.size) : (n1 q).1.pos ≤ q.s.size := q.number_le 1 h
theorem n2_le (q : St) (h : q.pos ≤ q.s.size) : (n2 q).1.pos ≤ q.s.size := by
  have := (n1 q).1.number_le 1 (by rw [n1_s]; exact n1_le q h)
  rwa [n1_s] at this
theorem n3_le (q : St) (h : q.pos ≤ q.s.size) : (n3 q).1.pos ≤ q.s.size := by
  unfold n3
  split
  · rw [St.fail_pos]; exact n2_le q h
  · have := (n2 q).1.hashes_le (by rw [n2_s]; exact n2_le q h) (n2 q).2
    rwa [n2_s] at this
theorem n4_le (q : St) (h : q.pos ≤ q.s.size) : (n4 q).1.pos ≤ q.s.size := by
  have := (n3 q).1.op_le (by rw [n3_s]; exact n3_le q h)
  rwa [n3_s] at this
theorem n5_le (q : St) (h : q.pos ≤ q.s.size) : (n5 q).1.pos ≤ q.s.size := by
  have := (n4 q).1.bytes_le 32 (by rw [n4_s]; exact n4_le q h)
  rwa [n4_s] at this
theorem hashes_size (q : St) : ∀ n, ∀ x ∈ (q.hashes n).2, x.size ≤ 32
  | 0, x, hx => by cases hx
  | n + 1, x, hx => by
    have e : (q.hashes (n + 1)).2 = (q.hashes n).2 ++ [((q.hashes n).1.bytes 32).2] := rfl
    rw [e] at hx
    rcases List.mem_append.1 hx with hx | hx
    · exact hashes_size q n x hx
    · rw [List.mem_singleton.1 hx]; exact St.bytes_size _ 32
theorem n3_size (q : St) : ∀ x ∈ (n3 q).2, x.size ≤ 32 := fun x hx => by
  unfold n3 at hx
  split at hx
  · cases hx
  · exact hashes_size _ _ x hx
/-- The error of bytes that are to be a node. -/
def decE (s : ByteArray) : Int := if (n5 ⟨s, 0, 0⟩).1.fin.err = 0 then (raw ⟨s, 0, 0⟩).chk else (n5 ⟨s, 0, 0⟩).1.fin.err
def Nd.zero : Nd := ⟨0, [], Ob.zero, ⟨#[]⟩⟩
/-- The node of bytes. -/
def decN (s : ByteArray) : Nd := if decE s = 0 then raw ⟨s, 0, 0⟩ else Nd.zero
theorem fin_zero {q : St} (h : q.fin.err = 0) : q.err = 0 ∧ q.s.size ≤ q.pos := by
  by_cases h1 : q.err = 0 ∧ q.pos < q.s.size
  · unfold St.fin at h; rw [if_pos h1] at h; cases h
  · have e : q.fin = q := by unfold St.fin; rw [if_neg h1]
    rw [e] at h
    exact ⟨h, Decidable.byContradiction fun x => h1 ⟨h, by omega⟩⟩
/-- What was read without an error is there. -/
theorem raw_took {s : ByteArray} (h : (n5 ⟨s, 0, 0⟩).1.fin.err = 0) : s = (raw ⟨s, 0, 0⟩).bytesB ∧ (n2 ⟨s, 0, 0⟩).2 ≤ 8 ∧ (n3 ⟨s, 0, 0⟩).2 = ((n2 ⟨s, 0, 0⟩).1.hashes (n2 ⟨s, 0, 0⟩).2).2 ∧ (n3 ⟨s, 0, 0⟩).1 = ((n2 ⟨s, 0, 0⟩).1.hashes (n2 ⟨s, 0, 0⟩).2).1 := by
  obtain ⟨h5, hp⟩ := fin_zero h
  have hq : (St.mk s 0 0).pos ≤ (St.mk s 0 0).s.size := Nat.zero_le _
  generalize hq0 : St.mk s 0 0 = q at *
  obtain ⟨t5, z5⟩ := St.bytes_took (q := (n4 q).1) (n := 32) (by decide) h5
  obtain ⟨t4, _, _⟩ := St.op_took (q := (n3 q).1) (by rw [n3_s]; exact n3_le q hq) t5.e0
  have hm : ¬ 8 < (n2 q).2 := fun x => by
    have e3 : n3 q = ((n2 q).1.fail 3, []) := by unfold n3; rw [if_pos x]
    have := t4.e0
    rw [e3] at this
    exact absurd this (St.fail_ne _ _ (by decide))
  have e3 : n3 q = (n2 q).1.hashes (n2 q).2 := by unfold n3; rw [if_neg hm]
  have h3 : ((n2 q).1.hashes (n2 q).2).1.err = 0 := by rw [← e3]; exact t4.e0
  obtain ⟨t3, _⟩ := St.hashes_took (n2 q).1 (by rw [n2_s]; exact n2_le q hq) _ h3
  have t2 : Took (n1 q).1 (num 2 (n2 q).2) (n2 q).1 := St.number_took (k := 1) (by decide) t3.e0
  have t1 : Took q (num 2 (n1 q).2) (n1 q).1 := St.number_took (k := 1) (by decide) t2.e0
  rw [← e3] at t3
  have t := (((t1.trans t2).trans t3).trans t4).trans t5
  have hl : (n3 q).2.length = (n2 q).2 := by rw [e3]; exact St.hashes_length _ _
  have e : num 2 (n1 q).2 ++ num 2 (n2 q).2 ++ cat (n3 q).2 ++ (n3 q).1.op.2.bytes ++ ((n4 q).1.bytes 32).2.data.toList = (raw q).body ++ (raw q).tg.data.toList := by
    unfold Nd.body raw
    dsimp only
    rw [hl]
    rfl
  rw [e] at t
  subst hq0
  refine ⟨?_, by omega, by rw [e3], by rw [e3]⟩
  exact t.all (by have := hp; rw [n5_s] at this; exact this)
/-- A node's bytes are read as that node. -/
theorem raw_at {n : Nd} (h : n.Good) : n5 ⟨n.bytesB, 0, 0⟩ = ((St.mk n.bytesB 0 0).on (n.body ++ n.tg.data.toList).length, n.tg) ∧ raw ⟨n.bytesB, 0, 0⟩ = n ∧ (n2 ⟨n.bytesB, 0, 0⟩).2 ≤ 8 := by
  have hau := h.au
  have hfew := h.few
  have a0 : At (St.mk n.bytesB 0 0) [] (num (2 * 1) n.au.toNat ++ (num (2 * 1) n.ps.length ++ (cat n.ps ++ (n.op.bytes ++ n.tg.data.toList)))) := ⟨by simp [Nd.bytesB, Nd.body], rfl, rfl⟩
  have hl : n.body.length = 4 + 32 * n.ps.length + n.op.bytes.length := by
    unfold Nd.body
    simp only [List.length_append, num_length, cat_length n.ps h.all]
  have ht : n.tg.data.toList.length = 32 := by rw [← size_list]; exact h.tag
  generalize (St.mk n.bytesB 0 0) = q at a0 ⊢
  have e1 : n1 q = (q.on 2, n.au.toNat) := At.number 1 n.au.toNat (by decide) (by omega) a0
  have a1 := a0.next
  rw [num_length] at a1
  have e2 : n2 q = ((q.on 2).on 2, n.ps.length) := by unfold n2; rw [e1]; exact At.number 1 n.ps.length (by decide) (by omega) a1
  have a2 := a1.next
  rw [num_length] at a2
  have e3 : n3 q = (((q.on 2).on 2).on (32 * n.ps.length), n.ps) := by
    unfold n3
    rw [e2, if_neg (by show ¬ 8 < n.ps.length; omega)]
    have := At.hashes n.ps h.all a2 n.ps.length (Nat.le_refl _)
    rw [List.take_of_length_le (Nat.le_refl _)] at this
    exact this
  have a3 := a2.next
  rw [cat_length n.ps h.all] at a3
  have e4 : n4 q = ((((q.on 2).on 2).on (32 * n.ps.length)).on n.op.bytes.length, n.op) := by unfold n4; rw [e3]; exact op_at h.ok h.good a3
  have a4 := a3.next
  have a4' : At ((((q.on 2).on 2).on (32 * n.ps.length)).on n.op.bytes.length) (([] ++ num (2 * 1) n.au.toNat ++ num (2 * 1) n.ps.length ++ cat n.ps) ++ n.op.bytes) (n.tg.data.toList ++ []) := by rw [List.append_nil]; exact a4
  have e5 : n5 q = (((((q.on 2).on 2).on (32 * n.ps.length)).on n.op.bytes.length).on 32, n.tg) := by
    unfold n5
    rw [e4]
    have := At.bytes a4' 32 (by rw [ht]; rfl)
    rw [ht] at this
    rw [this]
  refine ⟨?_, ?_, ?_⟩
  · rw [e5]
    simp only [on_on, List.length_append, hl, ht]
  · unfold raw
    rw [e1, e3, e4, e5]
    have : ((n.au.toNat : Nat) : Int) = n.au := by omega
    obtain ⟨au, ps, op, tg⟩ := n
    dsimp only at this ⊢
    rw [this]
  · rw [e2]; exact hfew
theorem dec_bytes {n : Nd} (h : n.Good) : decE n.bytesB = 0 ∧ decN n.bytesB = n ∧ (n5 ⟨n.bytesB, 0, 0⟩).1.fin.err = 0 := by
  obtain ⟨h5, hr, _⟩ := raw_at h
  have hf : (n5 ⟨n.bytesB, 0, 0⟩).1.fin.err = 0 := by
    rw [h5]
    rw [St.fin_end _ (by
      show ¬ 0 < ((n.bytesB.size : Nat) : Int) - ((0 + (n.body ++ n.tg.data.toList).length : Nat) : Int)
      rw [size_list]; simp only [Nd.bytesB]; omega)]
    rfl
  have he : decE n.bytesB = 0 := by unfold decE; rw [if_pos hf, hr]; exact h.chk
  exact ⟨he, by unfold decN; rw [if_pos he, hr], hf⟩
/-- Nodes that may be, and have the same bytes but for their tags, are the same but for these. -/
theorem body_inj {a b : Nd} (ha : a.Good) (hb : b.Good) (h : a.body = b.body) : a.au = b.au ∧ a.ps = b.ps ∧ a.op = b.op := by
  have h1 := (dec_bytes (n := ⟨a.au, a.ps, a.op, a.tg⟩) ha).2.1
  have hg : (Nd.mk b.au b.ps b.op a.tg).Good := ⟨hb.rise, ha.tag, hb.ok, hb.good, hb.who⟩
  have h2 := (dec_bytes hg).2.1
  have e : (Nd.mk a.au a.ps a.op a.tg).bytesB = (Nd.mk b.au b.ps b.op a.tg).bytesB := by
    unfold Nd.bytesB
    rw [show (Nd.mk b.au b.ps b.op a.tg).body = b.body from rfl, ← h]
  rw [e, h2] at h1
  simp only [Nd.mk.injEq, and_true] at h1
  exact ⟨h1.1.symm, h1.2.1.symm, h1.2.2.symm⟩
end Go.Nod
