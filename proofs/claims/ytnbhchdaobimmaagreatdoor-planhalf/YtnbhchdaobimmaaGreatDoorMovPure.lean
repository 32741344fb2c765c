/- Several texts in one: MoveMath, MoveLog. -/
import Derived.Test.YtnbhchdaobimmaaGreatDoorWirePure
import Derived.Test.YtnbhchdaobimmaaGreatDoorMapAll
import Derived.Sort.Walk0
/- The tree of things as plain data: things by their numbers, what an operation makes of them, operations in their order; no program text is named here. -/
namespace Go.Mov
open Go.RowKit Go.Opn Go.Stamp Go.MapInt
/-- A thing. -/
structure Th where
 id : Int
 par : Int
 name : ByteArray
 dir : Bool
 dg : ByteArray
 size : Int
def Th.cs (x : Th) : List Value := [.int .u64 x.id, .int .u64 x.par, .string x.name, .bool x.dir, .string x.dg, .int .i64 x.size]
def Th.v (x : Th) : Value := .agg #[.int .u64 x.id, .int .u64 x.par, .string x.name, .bool x.dir, .string x.dg, .int .i64 x.size]
def Th.zero : Th := ⟨0, 0, ⟨#[]⟩, false, ⟨#[]⟩, 0⟩
/-- What a thing's numbers may be by their types. -/
structure Th.Fits (x : Th) : Prop where
 id : Num x.id
 par : Num x.par
 name : x.name.size ≤ 9223372036854775807
 dg : x.dg.size ≤ 9223372036854775807
 size : -9223372036854775808 ≤ x.size ∧ x.size ≤ 9223372036854775807
/-- An operation with a digest. -/
structure En where
 op : Ob
 h : ByteArray
def En.cs (e : En) : List Value := [.int .i64 e.op.kind, .int .u64 e.op.tm.c, .int .i64 e.op.tm.k, .int .u64 e.op.thing, .int .u64 e.op.par, .string e.op.name, .bool e.op.dir, .string e.op.dg, .int .i64 e.op.size, .string e.h]
def En.v (e : En) : Value := .agg #[.int .i64 e.op.kind, .int .u64 e.op.tm.c, .int .i64 e.op.tm.k, .int .u64 e.op.thing, .int .u64 e.op.par, .string e.op.name, .bool e.op.dir, .string e.op.dg, .int .i64 e.op.size, .string e.h]
/-- What is kept of an operation that was done. -/
structure Sp where
 en : En
 was : Option Th
def Sp.x (s : Sp) : Th := s.was.getD Th.zero
def Sp.cs (s : Sp) : List Value := s.en.cs ++ (s.x.cs ++ [.bool s.was.isSome])
def Sp.v (s : Sp) : Value := .agg #[.int .i64 s.en.op.kind, .int .u64 s.en.op.tm.c, .int .i64 s.en.op.tm.k, .int .u64 s.en.op.thing, .int .u64 s.en.op.par, .string s.en.op.name, .bool s.en.op.dir, .string s.en.op.dg, .int .i64 s.en.op.size, .string s.en.h, .int .u64 s.x.id, .int .u64 s.x.par, .string s.x.name, .bool s.x.dir, .string s.x.dg, .int .i64 s.x.size, .bool s.was.isSome]
/-- Things, rising by their numbers. -/
abbrev Ths := List Th
def look : Ths → Int → Option Th
 | [], _ => none
 | x :: r, k => if k = x.id then some x else look r k
def put : Ths → Th → Ths
 | [], x => [x]
 | y :: r, x => if x.id < y.id then x :: y :: r else if x.id = y.id then x :: r else y :: put r x
def del (l : Ths) (k : Int) : Ths := l.filter fun x => !decide (x.id = k)
def Rises (l : Ths) : Prop := l.Pairwise fun a b => a.id < b.id
theorem look_none {k : Int} : ∀ {l : Ths}, look l k = none ↔ ∀ x ∈ l, x.id ≠ k
 | [] => by simp [look]
 | x :: r => by
  unfold look
  by_cases e : k = x.id
  ·rw [if_pos e]
   constructor
   ·intro h; cases h
   ·intro h; exact absurd e.symm (h x (by simp))
  ·rw [if_neg e, look_none]
   constructor
   ·intro h y hy
    rcases List.mem_cons.1 hy with rfl | hy
    ·exact fun h => e h.symm
    ·exact h y hy
   ·intro h y hy
    exact h y (by simp [hy])
theorem look_mem {k : Int} {a : Th} : ∀ {l : Ths}, look l k = some a → a ∈ l ∧ a.id = k
 | [], h => by cases h
 | x :: r, h => by
  unfold look at h
  split at h
  ·rename_i e
   cases h
   exact ⟨by simp, e.symm⟩
  ·have := look_mem h
   exact ⟨List.mem_cons_of_mem _ this.1, this.2⟩
theorem look_of_mem {a : Th} : ∀ {l : Ths}, Rises l → a ∈ l → look l a.id = some a
 | [], _, h => by cases h
 | x :: r, hn, h => by
  have hn := List.pairwise_cons.1 hn
  unfold look
  rcases List.mem_cons.1 h with e | h
  ·subst e; simp
  ·rw [if_neg, look_of_mem hn.2 h]
   have := hn.1 a h
   omega
theorem mem_put {x z : Th} : ∀ {l : Ths}, Rises l → (z ∈ put l x ↔ z = x ∨ (z ∈ l ∧ z.id ≠ x.id))
 | [], _ => by simp [put]
 | y :: r, hn => by
  have hn' := List.pairwise_cons.1 hn
  unfold put
  by_cases h1 : x.id < y.id
  ·rw [if_pos h1]
   constructor
   ·intro h
    rcases List.mem_cons.1 h with h | h
    ·exact .inl h
    ·refine .inr ⟨h, ?_⟩
     rcases List.mem_cons.1 h with rfl | h
     ·omega
     ·have := hn'.1 z h; omega
   ·rintro (rfl | ⟨h, _⟩)
    ·simp
    ·exact List.mem_cons_of_mem _ h
  ·rw [if_neg h1]
   by_cases h2 : x.id = y.id
   ·rw [if_pos h2]
    constructor
    ·intro h
     rcases List.mem_cons.1 h with h | h
     ·exact .inl h
     ·refine .inr ⟨List.mem_cons_of_mem _ h, ?_⟩
      have := hn'.1 z h; omega
    ·rintro (rfl | ⟨h, h3⟩)
     ·simp
     ·rcases List.mem_cons.1 h with rfl | h
      ·exact absurd h2.symm h3
      ·exact List.mem_cons_of_mem _ h
   ·rw [if_neg h2, List.mem_cons, mem_put hn'.2]
    constructor
    ·rintro (rfl | rfl | ⟨h, h3⟩)
     ·exact .inr ⟨by simp, fun e => h2 e.symm⟩
     ·exact .inl rfl
     ·exact .inr ⟨List.mem_cons_of_mem _ h, h3⟩
    ·rintro (rfl | ⟨h, h3⟩)
     ·exact .inr (.inl rfl)
     ·rcases List.mem_cons.1 h with rfl | h
      ·exact .inl rfl
      ·exact .inr (.inr ⟨h, h3⟩)
theorem rises_put {x : Th} : ∀ {l : Ths}, Rises l → Rises (put l x)
 | [], _ => by simp [put, Rises]
 | y :: r, hn => by
  have hn' := List.pairwise_cons.1 hn
  unfold put
  by_cases h1 : x.id < y.id
  ·rw [if_pos h1]
   refine List.pairwise_cons.2 ⟨fun z hz => ?_, hn⟩
   rcases List.mem_cons.1 hz with rfl | hz
   ·exact h1
   ·have := hn'.1 z hz; omega
  ·rw [if_neg h1]
   by_cases h2 : x.id = y.id
   ·rw [if_pos h2]
    exact List.pairwise_cons.2 ⟨fun z hz => by have := hn'.1 z hz; omega, hn'.2⟩
   ·rw [if_neg h2]
    refine List.pairwise_cons.2 ⟨fun z hz => ?_, rises_put hn'.2⟩
    rcases (mem_put hn'.2).1 hz with rfl | ⟨hz, _⟩
    ·omega
    ·exact hn'.1 z hz
theorem rises_del {l : Ths} (h : Rises l) (k : Int) : Rises (del l k) := h.sublist List.filter_sublist
theorem mem_del {l : Ths} {k : Int} {z : Th} : z ∈ del l k ↔ z ∈ l ∧ z.id ≠ k := by simp [del]
theorem look_ext {l r : Ths} {k : Int} (hl : Rises l) (h : ∀ z : Th, z.id = k → (z ∈ l ↔ z ∈ r)) : look l k = look r k := by
 cases e : look r k with
 | none => exact look_none.2 fun x hx e1 => look_none.1 e x ((h x e1).1 hx) e1
 | some a =>
  obtain ⟨h1, h2⟩ := look_mem e
  rw [← h2]
  exact look_of_mem hl ((h a h2).2 h1)
theorem look_put_same {l : Ths} (h : Rises l) (x : Th) : look (put l x) x.id = some x := look_of_mem (rises_put h) ((mem_put h).2 (.inl rfl))
theorem look_put_other {l : Ths} (h : Rises l) {x : Th} {k : Int} (hk : k ≠ x.id) : look (put l x) k = look l k :=
 look_ext (rises_put h) fun z hz => by
  rw [mem_put h]
  constructor
  ·rintro (rfl | h)
   ·exact absurd hz.symm hk
   ·exact h.1
  ·exact fun h1 => .inr ⟨h1, by omega⟩
theorem look_del_same (l : Ths) (k : Int) : look (del l k) k = none := look_none.2 fun _ hx => (mem_del.1 hx).2
theorem look_del_other {l : Ths} (h : Rises l) {k j : Int} (hk : j ≠ k) : look (del l k) j = look l j :=
 look_ext (rises_del h k) fun z hz => by rw [mem_del]; exact ⟨fun h => h.1, fun h1 => ⟨h1, by omega⟩⟩
theorem rises_ext : ∀ {l r : Ths}, Rises l → Rises r → (∀ z, z ∈ l ↔ z ∈ r) → l = r
 | [], [], _, _, _ => rfl
 | [], y :: r, _, _, h => by have := (h y).2 (by simp); cases this
 | x :: l, [], _, _, h => by have := (h x).1 (by simp); cases this
 | x :: l, y :: r, hl, hr, h => by
  have hl' := List.pairwise_cons.1 hl
  have hr' := List.pairwise_cons.1 hr
  have e : x = y := by
   rcases List.mem_cons.1 ((h x).1 (by simp)) with e | e
   ·exact e
   ·rcases List.mem_cons.1 ((h y).2 (by simp)) with e2 | e2
    ·exact e2.symm
    ·have := hl'.1 y e2
     have := hr'.1 x e
     omega
  subst e
  rw [rises_ext hl'.2 hr'.2 fun z => ?_]
  constructor
  ·intro hz
   rcases List.mem_cons.1 ((h z).1 (List.mem_cons_of_mem _ hz)) with rfl | h1
   ·have := hl'.1 z hz; omega
   ·exact h1
  ·intro hz
   rcases List.mem_cons.1 ((h z).2 (List.mem_cons_of_mem _ hz)) with rfl | h1
   ·have := hr'.1 z hz; omega
   ·exact h1
/-- What was is back. -/
theorem put_back {l : Ths} (h : Rises l) {x y : Th} (hy : look l x.id = some y) : put (put l x) y = l := by
 obtain ⟨h1, h2⟩ := look_mem hy
 refine rises_ext (rises_put (rises_put h)) h fun z => ?_
 rw [mem_put (rises_put h), mem_put h]
 constructor
 ·rintro (rfl | ⟨rfl | h3, h4⟩)
  ·exact h1
  ·exact absurd h2.symm h4
  ·exact h3.1
 ·intro h3
  by_cases e : z.id = x.id
  ·left
   have a := look_of_mem h h3
   rw [e, hy] at a
   exact (Option.some.inj a).symm
  ·exact .inr ⟨.inr ⟨h3, e⟩, by omega⟩
theorem put_same {l : Ths} (h : Rises l) {y : Th} (hy : look l y.id = some y) : put l y = l := by
 refine rises_ext (rises_put h) h fun z => ?_
 rw [mem_put h]
 constructor
 ·rintro (rfl | h3)
  ·exact (look_mem hy).1
  ·exact h3.1
 ·intro h3
  by_cases e : z.id = y.id
  ·have a := look_of_mem h h3
   rw [e, hy] at a
   exact .inl (Option.some.inj a).symm
  ·exact .inr ⟨h3, e⟩
theorem del_none {l : Ths} {k : Int} (h : look l k = none) : del l k = l := List.filter_eq_self.2 fun x hx => by simpa using look_none.1 h x hx
theorem put_cut {l : Ths} (h : Rises l) {x : Th} (hy : look l x.id = none) : del (put l x) x.id = l := by
 refine rises_ext (rises_del (rises_put h) _) h fun z => ?_
 rw [mem_del, mem_put h]
 constructor
 ·rintro ⟨rfl | h3, h4⟩
  ·exact absurd rfl h4
  ·exact h3.1
 ·intro h3
  exact ⟨.inr ⟨h3, look_none.1 hy z h3⟩, look_none.1 hy z h3⟩
theorem length_put_new {x : Th} : ∀ {l : Ths}, look l x.id = none → (put l x).length = l.length + 1
 | [], _ => rfl
 | y :: r, h => by
  unfold look at h
  split at h
  ·cases h
  ·rename_i e
   unfold put
   split
   ·rfl
   ·rw [List.length_cons, length_put_new h, List.length_cons]
theorem length_put_old {x : Th} : ∀ {l : Ths}, Rises l → look l x.id ≠ none → (put l x).length = l.length
 | [], _, h => absurd rfl h
 | y :: r, hn, h => by
  have hn' := List.pairwise_cons.1 hn
  unfold put
  by_cases h1 : x.id < y.id
  ·refine absurd (look_none.2 fun z hz => ?_) h
   rcases List.mem_cons.1 hz with rfl | hz
   ·omega
   ·have := hn'.1 z hz; omega
  ·rw [if_neg h1]
   by_cases h2 : x.id = y.id
   ·rw [if_pos h2]; rfl
   ·rw [if_neg h2, List.length_cons, List.length_cons, length_put_old hn'.2 (by unfold look at h; rwa [if_neg h2] at h)]
theorem length_put_le {l : Ths} (hn : Rises l) (x : Th) : (put l x).length ≤ l.length + 1 := by
 by_cases h : look l x.id = none
 ·rw [length_put_new h]; exact Nat.le_refl _
 ·rw [length_put_old hn h]; omega
theorem length_del {k : Int} {a : Th} : ∀ {l : Ths}, Rises l → look l k = some a → (del l k).length + 1 = l.length
 | [], _, h => by cases h
 | x :: r, hn, h => by
  have hn' := List.pairwise_cons.1 hn
  by_cases e : x.id = k
  ·have e1 : del (x :: r) k = del r k := by unfold del; rw [List.filter_cons_of_neg (by simp [e])]
   have e2 : look r k = none := look_none.2 fun y hy e3 => by have := hn'.1 y hy; omega
   rw [e1, del_none e2]; rfl
  ·have e1 : del (x :: r) k = x :: del r k := by unfold del; rw [List.filter_cons_of_pos (by simp [e])]
   unfold look at h
   rw [if_neg (fun e2 => e e2.symm)] at h
   rw [e1, List.length_cons, List.length_cons, length_del hn'.2 h]
/-- A folder. -/
def fold (l : Ths) (k : Int) : Bool := k == 0 || (match look l k with | some x => x.dir | none => false)
def top (k : Int) : Bool := k == 0 || k == 1
/-- The way up ends within n steps. -/
def UpEnds : Nat → Ths → Int → Prop
 | 0, l, k => look l k = none
 | n + 1, l, k => match look l k with | some x => UpEnds n l x.par | none => True
/-- What the way up from a number passes. -/
def wayUp : Nat → Ths → Int → List Int
 | 0, _, k => [k]
 | n + 1, l, k => match look l k with | some x => k :: wayUp n l x.par | none => [k]
def below (n : Nat) (l : Ths) (k o : Int) : Bool := (wayUp n l k).contains o
theorem UpEnds.step {n : Nat} {l : Ths} {k : Int} {x : Th} (h : UpEnds n l k) (hx : look l k = some x) : ∃ m, n = m + 1 ∧ UpEnds m l x.par := by
 cases n with
 | zero => simp only [UpEnds, hx] at h; cases h
 | succ m => simp only [UpEnds, hx] at h; exact ⟨m, rfl, h⟩
theorem UpEnds.of_none {n : Nat} {l : Ths} {k : Int} (h : look l k = none) : UpEnds n l k := by
 cases n <;> simp only [UpEnds, h]
theorem UpEnds.succ {n : Nat} {l : Ths} : ∀ {k : Int}, UpEnds n l k → UpEnds (n + 1) l k := by
 induction n with
 | zero => intro k h; exact UpEnds.of_none h
 | succ m ih =>
  intro k h
  cases hx : look l k with
  | none => exact UpEnds.of_none hx
  | some x =>
   obtain ⟨j, e, h1⟩ := h.step hx
   cases e
   show (match look l k with | some x => UpEnds (m + 1) l x.par | none => True)
   rw [hx]
   exact ih h1
theorem UpEnds.mono {n m : Nat} {l : Ths} {k : Int} (h : UpEnds n l k) (hm : n ≤ m) : UpEnds m l k := by
 induction hm with
 | refl => exact h
 | step _ ih => exact ih.succ
theorem wayUp_succ {n : Nat} {l : Ths} : ∀ {k : Int}, UpEnds n l k → wayUp (n + 1) l k = wayUp n l k := by
 induction n with
 | zero => intro k h; simp only [UpEnds] at h; simp only [wayUp, h]
 | succ m ih =>
  intro k h
  cases hx : look l k with
  | none => simp only [wayUp, hx]
  | some x =>
   obtain ⟨j, e, h1⟩ := h.step hx
   cases e
   have := ih h1
   show (match look l k with | some x => k :: wayUp (m + 1) l x.par | none => [k]) = wayUp (m + 1) l k
   rw [hx]
   simp only [this]
   conv => rhs; unfold wayUp
   rw [hx]
theorem wayUp_mono {n m : Nat} {l : Ths} {k : Int} (h : UpEnds n l k) (hm : n ≤ m) : wayUp m l k = wayUp n l k := by
 induction hm with
 | refl => rfl
 | step hm ih => rw [wayUp_succ (h.mono hm), ih]
theorem wayUp_same {n m : Nat} {l : Ths} {k : Int} (h : UpEnds n l k) (h' : UpEnds m l k) : wayUp m l k = wayUp n l k := by
 rcases Nat.le_total n m with e | e
 ·exact wayUp_mono h e
 ·exact (wayUp_mono h' e).symm
/-- What an operation makes of its thing. -/
def now (n : Nat) (l : Ths) (o : Ob) : Option Th :=
 if o.kind = 1 then (if (look l o.thing).isNone && !top o.thing && fold l o.par then some ⟨o.thing, o.par, o.name, o.dir, ⟨#[]⟩, 0⟩ else none)
 else if o.kind = 2 then (match look l o.thing with | some x => if fold l o.par && !below n l o.par o.thing then some ⟨x.id, o.par, o.name, x.dir, x.dg, x.size⟩ else none | none => none)
 else if o.kind = 3 then (match look l o.thing with | some x => some ⟨x.id, 1, x.name, x.dir, x.dg, x.size⟩ | none => none)
 else if o.kind = 4 then (match look l o.thing with | some x => if !x.dir then some ⟨x.id, x.par, x.name, x.dir, o.dg, o.size⟩ else none | none => none)
 else none
def made (l : Ths) (o : Ob) : Ths := match now l.length l o with | some x => put l x | none => l
theorem now_id {n : Nat} {l : Ths} {o : Ob} {x : Th} (h : now n l o = some x) : x.id = o.thing := by
 unfold now at h
 split at h
 ·split at h
  ·cases h; rfl
  ·cases h
 ·split at h
  ·split at h
   ·rename_i y hy
    split at h
    ·cases h; exact (look_mem hy).2
    ·cases h
   ·cases h
  ·split at h
   ·split at h
    ·rename_i y hy
     cases h; exact (look_mem hy).2
    ·cases h
   ·split at h
    ·split at h
     ·rename_i y hy
      split at h
      ·cases h; exact (look_mem hy).2
      ·cases h
     ·cases h
    ·cases h
/-- What things are: rising, neither the root nor the trash, each below one that is there, or these; all wayUp end. -/
structure Fine (l : Ths) : Prop where
 rises : Rises l
 fits : ∀ x ∈ l, x.Fits
 top : ∀ x ∈ l, 1 < x.id
 up : ∀ x ∈ l, x.par = 0 ∨ x.par = 1 ∨ look l x.par ≠ none
 ends : ∀ k, ∃ n, UpEnds n l k
theorem Fine.nil : Fine [] := ⟨List.Pairwise.nil, (fun x h => by cases h), (fun x h => by cases h), (fun x h => by cases h), fun k => ⟨0, rfl⟩⟩
theorem Fine.look_top {l : Ths} (h : Fine l) {k : Int} (hk : k ≤ 1) : look l k = none := look_none.2 fun x hx e => by have := h.top x hx; omega
/-- A way that ends is no longer than there are things. -/
theorem UpEnds.cut {l : Ths} (hr : Rises l) (k : Int) : ∀ {n : Nat} {j : Int}, UpEnds n l j → UpEnds n (del l k) j ∨ ∃ m, m ≤ n ∧ UpEnds m l k
 | 0, j, h => by
  left
  by_cases e : j = k
  ·subst e; exact UpEnds.of_none (look_del_same l j)
  ·exact UpEnds.of_none (by rw [look_del_other hr e]; exact h)
 | n + 1, j, h => by
  by_cases e : j = k
  ·subst e; exact .inr ⟨n + 1, Nat.le_refl _, h⟩
  ·cases hx : look l j with
   | none => exact .inl (UpEnds.of_none (by rw [look_del_other hr e]; exact hx))
   | some x =>
    obtain ⟨m, e1, h1⟩ := h.step hx
    cases e1
    rcases UpEnds.cut hr k h1 with h2 | ⟨m, h2, h3⟩
    ·left
     show (match look (del l k) j with | some x => UpEnds n (del l k) x.par | none => True)
     rw [look_del_other hr e, hx]
     exact h2
    ·exact .inr ⟨m, Nat.le_succ_of_le h2, h3⟩
theorem ends_least {l : Ths} {k : Int} : ∀ n, UpEnds n l k → ∃ m, UpEnds m l k ∧ ∀ j, j < m → ¬ UpEnds j l k
 | 0, h => ⟨0, h, fun _ h => absurd h (Nat.not_lt_zero _)⟩
 | n + 1, h => by
  by_cases h1 : UpEnds n l k
  ·exact ends_least n h1
  ·exact ⟨n + 1, h, fun j hj h2 => h1 (h2.mono (Nat.le_of_lt_succ hj))⟩
theorem ends_of_del {l : Ths} (hr : Rises l) {k : Int} : ∀ {n : Nat} {j : Int}, UpEnds n (del l k) j → (∀ i ∈ wayUp n (del l k) j, i ≠ k) → UpEnds n l j
 | 0, j, h, hw => by
  have e : j ≠ k := hw j (by simp [wayUp])
  exact UpEnds.of_none (by rw [← look_del_other hr e]; exact h)
 | n + 1, j, h, hw => by
  have e : j ≠ k := hw j (by unfold wayUp; split <;> simp)
  cases hx : look l j with
  | none => exact UpEnds.of_none hx
  | some x =>
   have hx' := hx
   rw [← look_del_other hr e] at hx'
   obtain ⟨m, e1, h1⟩ := h.step hx'
   cases e1
   show (match look l j with | some x => UpEnds n l x.par | none => True)
   rw [hx]
   refine ends_of_del hr h1 fun i hi => hw i ?_
   unfold wayUp
   rw [hx']
   exact List.mem_cons_of_mem _ hi
theorem ends_length : ∀ (N : Nat) {l : Ths}, l.length = N → Rises l → ∀ {n : Nat} {k : Int}, UpEnds n l k → UpEnds N l k
 | 0, l, hl, _, n, k, _ => by
  obtain rfl := List.length_eq_zero_iff.1 hl
  rfl
 | N + 1, l, hl, hr, n, k, h => by
  cases hx : look l k with
  | none => exact UpEnds.of_none hx
  | some x =>
   obtain ⟨m, hm, hmin⟩ := ends_least n h
   obtain ⟨m', e, hm'⟩ := hm.step hx
   cases e
   have h1 : UpEnds m' (del l k) x.par := by
    rcases hm'.cut hr k with h1 | ⟨j, h1, h2⟩
    ·exact h1
    ·exact absurd h2 (hmin j (by omega))
   have h2 := ends_length N (by have := length_del hr hx; omega) (rises_del hr k) h1
   show (match look l k with | some x => UpEnds N l x.par | none => True)
   rw [hx]
   have hno : ∀ i ∈ wayUp N (del l k) x.par, i ≠ k := by
    intro i hi e
    subst e
    have : ∀ (p : Nat) (j : Int), UpEnds p l j → i ∈ wayUp p (del l i) j → ∃ q, q ≤ p ∧ UpEnds q l i := by
     intro p
     induction p with
     | zero =>
      intro j hj hi
      simp only [wayUp, List.mem_singleton] at hi
      subst hi
      exact ⟨0, Nat.le_refl _, hj⟩
     | succ p ih =>
      intro j hj hi
      by_cases e : i = j
      ·subst e; exact ⟨p + 1, Nat.le_refl _, hj⟩
      ·unfold wayUp at hi
       split at hi
       ·rename_i y hy
        rcases List.mem_cons.1 hi with h | h
        ·exact absurd h e
        ·rw [look_del_other hr (fun h => e h.symm)] at hy
         obtain ⟨q, e2, h3⟩ := hj.step hy
         cases e2
         obtain ⟨q, h4, h5⟩ := ih _ h3 h
         exact ⟨q, Nat.le_succ_of_le h4, h5⟩
       ·exact absurd (List.mem_singleton.1 hi) e
    have e3 : i ∈ wayUp m' (del l i) x.par := by
     rw [wayUp_same h2 h1]; exact hi
    obtain ⟨q, h4, h5⟩ := this m' x.par hm' e3
    exact hmin q (by omega) h5
   exact ends_of_del hr h2 hno
theorem Fine.ends_len {l : Ths} (h : Fine l) (k : Int) : UpEnds l.length l k := by
 obtain ⟨n, hn⟩ := h.ends k
 exact ends_length _ rfl h.rises hn
end Go.Mov
/- Operations in their order, what is kept of them, and what is taken back; no program text is named here. -/
namespace Go.Mov
open Go.RowKit Go.Opn Go.Stamp Go.MapInt
/-! Things stay fine. -/
theorem ends_put_avoid {l : Ths} (hr : Rises l) {x : Th} : ∀ {n : Nat} {k : Int}, UpEnds n l k → x.id ∉ wayUp n l k → UpEnds n (put l x) k
 | 0, k, h, hn => by
  have e : k ≠ x.id := fun e => hn (by simp [wayUp, e])
  exact UpEnds.of_none (by rw [look_put_other hr e]; exact h)
 | n + 1, k, h, hn => by
  have e : k ≠ x.id := fun e => hn (by unfold wayUp; split <;> simp [e])
  cases hx : look l k with
  | none => exact UpEnds.of_none (by rw [look_put_other hr e]; exact hx)
  | some y =>
   obtain ⟨m, e1, h1⟩ := h.step hx
   cases e1
   show (match look (put l x) k with | some x_1 => UpEnds n (put l x) x_1.par | none => True)
   rw [look_put_other hr e, hx]
   refine ends_put_avoid hr h1 fun hi => hn ?_
   unfold wayUp
   rw [hx]
   exact List.mem_cons_of_mem _ hi
theorem ends_put {l : Ths} (hr : Rises l) {x : Th} {n : Nat} (h : UpEnds n (put l x) x.par) : ∀ {m : Nat} {k : Int}, UpEnds m l k → UpEnds (m + n + 1) (put l x) k
 | m, k, hk => by
  by_cases e : k = x.id
  ·subst e
   refine UpEnds.mono (n := n + 1) ?_ (by omega)
   show (match look (put l x) x.id with | some x_1 => UpEnds n (put l x) x_1.par | none => True)
   rw [look_put_same hr]
   exact h
  ·cases hx : look l k with
   | none => exact UpEnds.of_none (by rw [look_put_other hr e]; exact hx)
   | some y =>
    obtain ⟨m', e1, h1⟩ := hk.step hx
    cases e1
    have := ends_put hr h h1
    refine UpEnds.mono (n := m' + n + 1 + 1) ?_ (by omega)
    show (match look (put l x) k with | some x_1 => UpEnds (m' + n + 1) (put l x) x_1.par | none => True)
    rw [look_put_other hr e, hx]
    exact this
theorem ends_put_same {l : Ths} (hr : Rises l) {x y : Th} (hy : look l x.id = some y) (hp : x.par = y.par) : ∀ {m : Nat} {k : Int}, UpEnds m l k → UpEnds m (put l x) k
 | 0, k, hk => by
  have e : k ≠ x.id := fun e => by subst e; simp only [UpEnds, hy] at hk; cases hk
  exact UpEnds.of_none (by rw [look_put_other hr e]; exact hk)
 | m + 1, k, hk => by
  by_cases e : k = x.id
  ·subst e
   obtain ⟨m', e1, h1⟩ := hk.step hy
   cases e1
   show (match look (put l x) x.id with | some x_1 => UpEnds m (put l x) x_1.par | none => True)
   rw [look_put_same hr]
   show UpEnds m (put l x) x.par
   rw [hp]
   exact ends_put_same hr hy hp h1
  ·cases hx : look l k with
   | none => exact UpEnds.of_none (by rw [look_put_other hr e]; exact hx)
   | some z =>
    obtain ⟨m', e1, h1⟩ := hk.step hx
    cases e1
    show (match look (put l x) k with | some x_1 => UpEnds m (put l x) x_1.par | none => True)
    rw [look_put_other hr e, hx]
    exact ends_put_same hr hy hp h1
theorem Fine.wayUp_in {l : Ths} (h : Fine l) : ∀ {n : Nat} {k : Int}, k = 0 ∨ k = 1 ∨ look l k ≠ none → ∀ i ∈ wayUp n l k, i = 0 ∨ i = 1 ∨ look l i ≠ none
 | 0, k, hk, i, hi => by
  simp only [wayUp, List.mem_singleton] at hi
  rw [hi]; exact hk
 | n + 1, k, hk, i, hi => by
  unfold wayUp at hi
  split at hi
  ·rename_i x hx
   rcases List.mem_cons.1 hi with e | hi
   ·rw [e]; exact hk
   ·exact h.wayUp_in (h.up x (look_mem hx).1) i hi
  ·rw [List.mem_singleton.1 hi]; exact hk
theorem Fine.put {l : Ths} (h : Fine l) {x : Th} (hf : x.Fits) (ht : 1 < x.id) (hu : x.par = 0 ∨ x.par = 1 ∨ look l x.par ≠ none) (he : (∃ n, UpEnds n l x.par ∧ x.id ∉ wayUp n l x.par) ∨ ∃ y, look l x.id = some y ∧ x.par = y.par) : Fine (put l x) := by
 have hlk : ∀ k, look l k ≠ none → look (Mov.put l x) k ≠ none := by
  intro k hk
  by_cases e : k = x.id
  ·rw [e, look_put_same h.rises]; simp
  ·rw [look_put_other h.rises e]; exact hk
 refine ⟨rises_put h.rises, fun z hz => ?_, fun z hz => ?_, fun z hz => ?_, fun k => ?_⟩
 ·rcases (mem_put h.rises).1 hz with rfl | hz
  ·exact hf
  ·exact h.fits z hz.1
 ·rcases (mem_put h.rises).1 hz with rfl | hz
  ·exact ht
  ·exact h.top z hz.1
 ·rcases (mem_put h.rises).1 hz with rfl | hz
  ·rcases hu with e | e | e
   ·exact .inl e
   ·exact .inr (.inl e)
   ·exact .inr (.inr (hlk _ e))
  ·rcases h.up z hz.1 with e | e | e
   ·exact .inl e
   ·exact .inr (.inl e)
   ·exact .inr (.inr (hlk _ e))
 ·obtain ⟨m, hm⟩ := h.ends k
  rcases he with ⟨n, h1, h2⟩ | ⟨y, h1, h2⟩
  ·exact ⟨_, ends_put h.rises (ends_put_avoid h.rises h1 h2) hm⟩
  ·exact ⟨m, ends_put_same h.rises h1 h2 hm⟩
theorem fold_in {l : Ths} {k : Int} (h : fold l k = true) : k = 0 ∨ k = 1 ∨ look l k ≠ none := by
 unfold fold at h
 simp only [Bool.or_eq_true, beq_iff_eq] at h
 rcases h with h | h
 ·exact .inl h
 ·split at h
  ·rename_i hx; exact .inr (.inr (by rw [hx]; simp))
  ·cases h
theorem Fine.now {l : Ths} (h : Fine l) {o : Ob} (ho : o.Fits) {x : Th} (hx : now l.length l o = some x) : Fine (Mov.put l x) ∧ x.Fits := by
 unfold Mov.now at hx
 have hth : Num o.thing := ho.thing
 have hpa : Num o.par := ho.par
 split at hx
 ·split at hx
  ·rename_i hc
   cases hx
   simp only [Bool.and_eq_true, Option.isNone_iff_eq_none, Bool.not_eq_true'] at hc
   obtain ⟨⟨h1, h2⟩, h3⟩ := hc
   have hfi : (⟨o.thing, o.par, o.name, o.dir, ⟨#[]⟩, 0⟩ : Th).Fits := ⟨hth, hpa, ho.name, by show (0 : Nat) ≤ _; omega, by simp⟩
   refine ⟨h.put hfi ?_ (fold_in h3) (.inl ⟨_, h.ends_len _, fun hi => ?_⟩), hfi⟩
   ·simp only [Mov.top, Bool.or_eq_false_iff, beq_eq_false_iff_ne] at h2
    have := hth.1
    show 1 < o.thing
    omega
   ·simp only [Mov.top, Bool.or_eq_false_iff, beq_eq_false_iff_ne] at h2
    rcases h.wayUp_in (fold_in h3) _ hi with e | e | e
    ·exact h2.1 e
    ·exact h2.2 e
    ·exact e h1
  ·cases hx
 ·split at hx
  ·split at hx
   ·rename_i y hy
    split at hx
    ·rename_i hc
     cases hx
     have hyf := h.fits y (look_mem hy).1
     have hid := (look_mem hy).2
     simp only [Bool.and_eq_true, Bool.not_eq_true'] at hc
     have hfi : (⟨y.id, o.par, o.name, y.dir, y.dg, y.size⟩ : Th).Fits := ⟨hyf.id, hpa, ho.name, hyf.dg, hyf.size⟩
     refine ⟨h.put hfi (h.top y (look_mem hy).1) (fold_in hc.1) (.inl ⟨_, h.ends_len _, fun hi => ?_⟩), hfi⟩
     have h2 := hc.2
     unfold below at h2
     rw [← hid] at h2
     have h3 := List.contains_iff_mem.2 hi
     dsimp only at h3
     rw [h3] at h2
     cases h2
    ·cases hx
   ·cases hx
  ·split at hx
   ·split at hx
    ·rename_i y hy
     cases hx
     have hyf := h.fits y (look_mem hy).1
     have hfi : (⟨y.id, 1, y.name, y.dir, y.dg, y.size⟩ : Th).Fits := ⟨hyf.id, (⟨by decide, by decide⟩ : Num 1), hyf.name, hyf.dg, hyf.size⟩
     have ht := h.top y (look_mem hy).1
     refine ⟨h.put hfi ht (.inr (.inl rfl)) (.inl ⟨0, h.look_top (Int.le_refl 1), fun hi => ?_⟩), hfi⟩
     simp only [wayUp, List.mem_singleton] at hi
     omega
    ·cases hx
   ·split at hx
    ·split at hx
     ·rename_i y hy
      split at hx
      ·cases hx
       have hyf := h.fits y (look_mem hy).1
       have hfi : (⟨y.id, y.par, y.name, y.dir, o.dg, o.size⟩ : Th).Fits := ⟨hyf.id, hyf.par, hyf.name, ho.dg, ho.size⟩
       refine ⟨h.put hfi (h.top y (look_mem hy).1) (h.up y (look_mem hy).1) (.inr ⟨y, ?_, rfl⟩), hfi⟩
       show look l y.id = some y
       rw [(look_mem hy).2]; exact hy
      ·cases hx
     ·cases hx
    ·cases hx
theorem Fine.made {l : Ths} (h : Fine l) {o : Ob} (ho : o.Fits) : Fine (Mov.made l o) := by
 unfold Mov.made
 split
 ·rename_i x hx; exact (h.now ho hx).1
 ·exact h
theorem made_length {l : Ths} (h : Fine l) (o : Ob) : (made l o).length ≤ l.length + 1 := by
 unfold made
 split
 ·exact length_put_le h.rises _
 ·omega
/-! What is kept. -/
def ths (t : Ths) (l : List En) : Ths := l.foldl (fun t e => made t e.op) t
def sps : Ths → List En → List Sp
 | _, [] => []
 | t, e :: r => ⟨e, look t e.op.thing⟩ :: sps (made t e.op) r
theorem ths_append (t : Ths) (a b : List En) : ths t (a ++ b) = ths (ths t a) b := by unfold ths; rw [List.foldl_append]
theorem ths_cons (t : Ths) (e : En) (r : List En) : ths t (e :: r) = ths (made t e.op) r := rfl
theorem ths_one (t : Ths) (e : En) : ths t [e] = made t e.op := rfl
theorem sps_append : ∀ (t : Ths) (a b : List En), sps t (a ++ b) = sps t a ++ sps (ths t a) b
 | _, [], _ => rfl
 | t, e :: r, b => by
  show _ :: sps (made t e.op) (r ++ b) = _
  rw [sps_append]; rfl
theorem sps_length : ∀ (t : Ths) (l : List En), (sps t l).length = l.length
 | _, [] => rfl
 | t, e :: r => by show (_ :: sps (made t e.op) r).length = _; rw [List.length_cons, sps_length]; rfl
theorem sps_en : ∀ (t : Ths) (l : List En), (sps t l).map (·.en) = l
 | _, [] => rfl
 | t, e :: r => by show (_ :: (sps (made t e.op) r).map (·.en)) = _; rw [sps_en]
def En.Fits (e : En) : Prop := e.op.Fits ∧ e.h.size ≤ 9223372036854775807
theorem ths_fine : ∀ {l : List En} {t : Ths}, Fine t → (∀ e ∈ l, e.Fits) → Fine (ths t l)
 | [], _, h, _ => h
 | e :: r, t, h, hf => ths_fine (l := r) (h.made (hf e (by simp)).1) fun x hx => hf x (by simp [hx])
theorem ths_length : ∀ {l : List En} {t : Ths}, Fine t → (∀ e ∈ l, e.Fits) → (ths t l).length ≤ t.length + l.length
 | [], _, _, _ => Nat.le_refl _
 | e :: r, t, h, hf => by
  have := ths_length (l := r) (h.made (hf e (by simp)).1) fun x hx => hf x (by simp [hx])
  have h2 := made_length h e.op
  rw [ths_cons, List.length_cons]
  omega
/-- One that is taken back. -/
def undo (t : Ths) (s : Sp) : Ths := match s.was with | some y => put t y | none => del t s.en.op.thing
theorem undo_made {t : Ths} (h : Fine t) (e : En) : undo (made t e.op) ⟨e, look t e.op.thing⟩ = t := by
 unfold undo made
 dsimp only
 split
 ·rename_i y hy
  split
  ·rename_i x hx
   exact put_back h.rises (by rw [now_id hx]; exact hy)
  ·exact put_same h.rises (by rw [(look_mem hy).2]; exact hy)
 ·rename_i hy
  split
  ·rename_i x hx
   rw [← now_id hx] at hy ⊢
   exact put_cut h.rises hy
  ·exact del_none hy
/-! The order. -/
def less (a b : ByteArray) : Bool := Op.bytesLess a.toList b.toList
theorem less_iff (a b : ByteArray) : less a b = true ↔ a.data.toList < b.data.toList := by unfold less; rw [Go.Proofs.bytesLess_eq, ByteArray.toList_eq, ByteArray.toList_eq]; simp
theorem list_inj {a b : ByteArray} (h : a.data.toList = b.data.toList) : a = b := ByteArray.ext (Array.toList_inj.1 h)
theorem less_irrefl (a : ByteArray) : less a a = false := by
 cases h : less a a with
 | false => rfl
 | true => exact absurd ((less_iff a a).1 h) (List.lt_irrefl _)
theorem less_trans {a b c : ByteArray} (h : less a b = true) (k : less b c = true) : less a c = true := (less_iff a c).2 (List.lt_trans ((less_iff a b).1 h) ((less_iff b c).1 k))
theorem less_other {a b : ByteArray} (h : less a b = false) (k : a ≠ b) : less b a = true := by
 rw [less_iff]
 have h1 : ¬ a.data.toList < b.data.toList := fun h1 => by rw [(less_iff a b).2 h1] at h; cases h
 have h2 : b.data.toList ≤ a.data.toList := h1
 rcases List.le_iff_lt_or_eq.1 h2 with h3 | h3
 ·exact h3
 ·exact absurd (list_inj h3).symm k
def cmpB (a b : ByteArray) : Int := if less a b then -1 else if a = b then 0 else 1
def cmpE (a b : En) : Int := if a.op.tm.cmp b.op.tm = 0 then cmpB a.h b.h else a.op.tm.cmp b.op.tm
/-- Ahead. -/
def Bf (a b : En) : Prop := a.op.tm.before b.op.tm ∨ (a.op.tm = b.op.tm ∧ less a.h b.h = true)
theorem cmpE_spec (a b : En) : (cmpE a b = -1 ∧ Bf a b) ∨ (cmpE a b = 0 ∧ a.op.tm = b.op.tm ∧ a.h = b.h) ∨ (cmpE a b = 1 ∧ Bf b a) := by
 obtain ⟨⟨ak, ⟨ac, aw⟩, a3, a4, a5, a6, a7, a8⟩, ah⟩ := a
 obtain ⟨⟨bk, ⟨bc, bw⟩, b3, b4, b5, b6, b7, b8⟩, bh⟩ := b
 unfold cmpE Bf Tm.cmp Tm.before cmpB
 dsimp only
 by_cases h1 : ac < bc
 ·simp [h1]
 ·by_cases h2 : bc < ac
  ·simp [h1, h2]
  ·obtain rfl : ac = bc := by omega
   by_cases h3 : aw < bw
   ·simp [h3]
   ·by_cases h4 : bw < aw
    ·simp [h3, h4]
    ·obtain rfl : aw = bw := by omega
     by_cases h5 : less ah bh = true
     ·simp [h5]
     ·have h5 : less ah bh = false := by simpa using h5
      by_cases h6 : ah = bh
      ·simp [h6, less_irrefl]
      ·have := less_other h5 h6
       simp [h5, h6, this]
theorem Bf.trans {a b c : En} (h : Bf a b) (k : Bf b c) : Bf a c := by
 unfold Bf Tm.before at *
 rcases h with h | ⟨h, h'⟩ <;> rcases k with k | ⟨k, k'⟩
 ·left; omega
 ·left; rw [← k]; exact h
 ·left; rw [h]; exact k
 ·exact .inr ⟨h.trans k, less_trans h' k'⟩
theorem Bf.irrefl (a : En) : ¬ Bf a a := by
 unfold Bf Tm.before
 rintro (h | ⟨_, h⟩)
 ·omega
 ·rw [less_irrefl] at h; cases h
theorem Bf.asymm {a b : En} (h : Bf a b) : ¬ Bf b a := fun k => Bf.irrefl a (h.trans k)
theorem Bf.same_left {a a' b : En} (h : Bf a b) (h1 : a.op.tm = a'.op.tm) (h2 : a.h = a'.h) : Bf a' b := by unfold Bf at *; rw [← h1, ← h2]; exact h
theorem Bf.same_right {a b b' : En} (h : Bf a b) (h1 : b.op.tm = b'.op.tm) (h2 : b.h = b'.h) : Bf a b' := by unfold Bf at *; rw [← h1, ← h2]; exact h
theorem cmpE_lt {a b : En} : cmpE a b < 0 ↔ Bf a b := by
 rcases cmpE_spec a b with ⟨h1, h2⟩ | ⟨h1, h2, h3⟩ | ⟨h1, h2⟩ <;> rw [h1]
 ·simp [h2]
 ·simp only [Int.lt_irrefl, false_iff]
  intro h; exact Bf.irrefl b (h.same_left h2 h3)
 ·exact ⟨fun h => absurd h (by decide), fun h => absurd h h2.asymm⟩
theorem cmpE_gt {a b : En} : 0 < cmpE a b ↔ Bf b a := by
 rcases cmpE_spec a b with ⟨h1, h2⟩ | ⟨h1, h2, h3⟩ | ⟨h1, h2⟩ <;> rw [h1]
 ·exact ⟨fun h => absurd h (by decide), fun h => absurd h h2.asymm⟩
 ·simp only [Int.lt_irrefl, false_iff]
  intro h; exact Bf.irrefl b (h.same_right h2 h3)
 ·simp [h2]
/-- In order, none twice. -/
def Ord (l : List En) : Prop := l.Pairwise Bf
/-- How many stand ahead of one. -/
def place (l : List En) (e : En) : Nat := l.countP fun x => decide (cmpE x e < 0)
def known (l : List En) (e : En) : Bool := match l[place l e]? with | some x => cmpE x e == 0 | none => false
def ins (l : List En) (e : En) : List En := l.take (place l e) ++ e :: l.drop (place l e)
theorem place_le (l : List En) (e : En) : place l e ≤ l.length := List.countP_le_length
theorem ins_length (l : List En) (e : En) : (ins l e).length = l.length + 1 := by
 have := place_le l e
 unfold ins
 rw [List.length_append, List.length_cons, List.length_take, List.length_drop]
 omega
theorem place_spec {e : En} : ∀ {l : List En}, Ord l → (∀ x ∈ l.take (place l e), Bf x e) ∧ (∀ x ∈ l.drop (place l e), ¬ Bf x e)
 | [], _ => ⟨(fun x h => by simp at h), fun x h => by simp at h⟩
 | a :: r, h => by
  have h' := List.pairwise_cons.1 h
  obtain ⟨h1, h2⟩ := place_spec (e := e) h'.2
  unfold place at *
  by_cases ha : Bf a e
  ·rw [List.countP_cons_of_pos (by simpa using cmpE_lt.2 ha), List.take_succ_cons, List.drop_succ_cons]
   refine ⟨fun x hx => ?_, h2⟩
   rcases List.mem_cons.1 hx with rfl | hx
   ·exact ha
   ·exact h1 x hx
  ·have hz : r.countP (fun x => decide (cmpE x e < 0)) = 0 := by
    rw [List.countP_eq_zero]
    intro x hx hb
    exact ha ((h'.1 x hx).trans (cmpE_lt.1 (by simpa using hb)))
   rw [List.countP_cons_of_neg (by simpa using fun hb => ha (cmpE_lt.1 hb)), hz]
   refine ⟨(fun x hx => by simp at hx), fun x hx => ?_⟩
   rcases List.mem_cons.1 hx with rfl | hx
   ·exact ha
   ·exact fun hb => ha ((h'.1 x hx).trans hb)
theorem ord_ins {l : List En} {e : En} (h : Ord l) (hk : known l e = false) : Ord (ins l e) := by
 obtain ⟨h1, h2⟩ := place_spec (e := e) h
 have hd : ∀ x ∈ l.drop (place l e), Bf e x := by
  cases hx : l.drop (place l e) with
  | nil => intro x hx; cases hx
  | cons y r =>
   have e1 : l[place l e]? = some y := by
    have := congrArg (fun z => z[0]?) hx
    simpa using this
   have hy : Bf e y := by
    unfold known at hk
    rw [e1] at hk
    have h0 : cmpE y e ≠ 0 := by simpa using hk
    have hn := h2 y (by rw [hx]; simp)
    rw [← cmpE_lt] at hn
    exact cmpE_gt.1 (by omega)
   have hp : Ord (y :: r) := hx ▸ h.sublist (List.drop_sublist _ _)
   intro x hx
   rcases List.mem_cons.1 hx with rfl | hx
   ·exact hy
   ·exact hy.trans ((List.pairwise_cons.1 hp).1 x hx)
 unfold ins
 refine List.pairwise_append.2 ⟨h.sublist (List.take_sublist _ _), List.pairwise_cons.2 ⟨hd, h.sublist (List.drop_sublist _ _)⟩, fun a ha b hb => ?_⟩
 rcases List.mem_cons.1 hb with rfl | hb
 ·exact h1 a ha
 ·exact (h1 a ha).trans (hd b hb)
theorem mem_ins {l : List En} {e x : En} : x ∈ ins l e ↔ x = e ∨ x ∈ l := by
 unfold ins
 rw [List.mem_append, List.mem_cons]
 constructor
 ·rintro (h | h | h)
  ·exact .inr (List.mem_of_mem_take h)
  ·exact .inl h
  ·exact .inr (List.mem_of_mem_drop h)
 ·rintro (h | h)
  ·exact .inr (.inl h)
  ·rw [← List.take_append_drop (place l e) l] at h
   rcases List.mem_append.1 h with h | h
   ·exact .inl h
   ·exact .inr (.inr h)
end Go.Mov
