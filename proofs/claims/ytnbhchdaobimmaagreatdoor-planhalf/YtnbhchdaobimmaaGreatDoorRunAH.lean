/- Several texts in one: ImageMath, ImageOrder, ImageDoc, ImageOnce. -/
import Derived.Test.YtnbhchdaobimmaaGreatDoorMoveKids
import Derived.Test.YtnbhchdaobimmaaGreatDoorNameMath
import Derived.Sort.Statements
/- The image of a tree as plain data: folder by folder, in the order in which they are met; no program text is named here. -/
namespace Go.Img
open Go.RowKit Go.Mov
/-- A file, or a folder, of an image. -/
structure Fi where
 path : List UInt8
 dir : Bool
 id : Int
 dg : ByteArray
 size : Int
/-- The path of a name in a folder; the root is an empty path. -/
def join (f s : List UInt8) : List UInt8 := if f = [] then s else f ++ 47 :: s
def nameOf (x : Th) : List UInt8 := x.name.data.toList
/-- One thing by its path, if that is not too long. -/
def fileAt (x : Th) (p : List UInt8) : Option Fi := if p.length ≤ 238 then some ⟨p, x.dir, x.id, x.dg, x.size⟩ else none
/-- The things of a folder by their paths. -/
def named (f : List UInt8) (xs : Ths) : List Fi := (xs.zip (Names.asg (xs.map nameOf))).filterMap fun p => fileAt p.1 (join f p.2)
/-- The image, folder by folder, from a place of the list on. -/
def grow (T : Ths) : Nat → Nat → List Fi → List Fi
 | 0, _, l => l
 | n + 1, i, l => match l[i]? with | none => l | some f => grow T n (i + 1) (l ++ named f.path (kidsOf T f.id))
def start (T : Ths) : List Fi := named [] (kidsOf T 0)
theorem fileAt_id {x : Th} {p : List UInt8} {f : Fi} (h : fileAt x p = some f) : f.id = x.id := by
 unfold fileAt at h
 split at h
 ·cases h; rfl
 ·cases h
theorem mem_named {f : List UInt8} {xs : Ths} {y : Fi} (h : y ∈ named f xs) : ∃ x ∈ xs, y.id = x.id := by
 unfold named at h
 obtain ⟨p, hp, h2⟩ := List.mem_filterMap.1 h
 exact ⟨p.1, (List.of_mem_zip hp).1, fileAt_id h2⟩
theorem named_sub (f : List UInt8) : ∀ (xs : Ths) (ns : List (List UInt8)), (((xs.zip ns).filterMap fun p => fileAt p.1 (join f p.2)).map (·.id)).Sublist (xs.map (·.id))
 | [], _ => by simp
 | x :: r, [] => by simp
 | x :: r, s :: ns => by
  have ih := named_sub f r ns
  rw [List.zip_cons_cons, List.filterMap_cons, List.map_cons]
  cases h : fileAt x (join f s) with
  | none => exact ih.cons _
  | some y =>
   rw [List.map_cons, fileAt_id h]
   exact ih.cons_cons _
theorem rises_ids {T : Ths} (h : Rises T) : (T.map (·.id)).Nodup := by
 rw [List.nodup_iff_pairwise_ne, List.pairwise_map]
 exact h.imp fun h => by omega
theorem kids_par {T : Ths} {k : Int} {x : Th} (h : x ∈ kidsOf T k) : x ∈ T ∧ x.par = k := by
 unfold kidsOf at h
 obtain ⟨h1, h2⟩ := List.mem_filter.1 h
 exact ⟨h1, by simpa using h2⟩
theorem named_nodup {T : Ths} (h : Rises T) (f : List UInt8) (k : Int) : ((named f (kidsOf T k)).map (·.id)).Nodup :=
 (named_sub f _ _).nodup ((List.filter_sublist.map _).nodup (rises_ids h))
/-- What holds while the image grows: each number once; each stands below one that was gone over, or below the root. -/
structure Gw (T : Ths) (i : Nat) (l : List Fi) : Prop where
 once : (l.map (·.id)).Nodup
 part : ∀ f ∈ l, ∃ x ∈ T, x.id = f.id ∧ (x.par = 0 ∨ ∃ g ∈ l.take i, g.id = x.par)
 le : i ≤ l.length
theorem unique {T : Ths} (h : Rises T) {x y : Th} (hx : x ∈ T) (hy : y ∈ T) (e : x.id = y.id) : x = y := by
 have a := look_of_mem h hx
 have b := look_of_mem h hy
 rw [e] at a
 rw [a] at b
 exact Option.some.inj b
theorem Gw.start {T : Ths} (h : Fine T) : Gw T 0 (start T) :=
 ⟨named_nodup h.rises _ _, fun f hf => by
  obtain ⟨x, hx, e⟩ := mem_named hf
  have := kids_par hx
  exact ⟨x, this.1, e.symm, .inl this.2⟩, Nat.zero_le _⟩
theorem Gw.next {T : Ths} (h : Fine T) {i : Nat} {l : List Fi} (g : Gw T i l) {f : Fi} (hf : l[i]? = some f) : Gw T (i + 1) (l ++ named f.path (kidsOf T f.id)) := by
 have hil := (List.getElem?_eq_some_iff.1 hf).1
 have htk : (l ++ named f.path (kidsOf T f.id)).take (i + 1) = l.take (i + 1) := List.take_append_of_le_length (by omega)
 have hft : f ∈ l.take (i + 1) := List.mem_iff_getElem?.2 ⟨i, by rw [List.getElem?_take_of_lt (by omega)]; exact hf⟩
 have hfid : 1 < f.id := by
  obtain ⟨x, hx, e, _⟩ := g.part f (List.mem_of_getElem? hf)
  have := h.top x hx
  omega
 refine ⟨?_, fun y hy => ?_, by rw [List.length_append]; omega⟩
 ·rw [List.map_append]
  refine List.nodup_append.2 ⟨g.once, named_nodup h.rises _ _, fun a ha b hb e => ?_⟩
  subst e
  obtain ⟨y, hy, rfl⟩ := List.mem_map.1 ha
  obtain ⟨z, hz, hzy⟩ := List.mem_map.1 hb
  obtain ⟨x, hx, e1, hp⟩ := g.part y hy
  obtain ⟨w, hw, e2⟩ := mem_named hz
  have hwp := kids_par hw
  have exw : x = w := unique h.rises hx hwp.1 (by rw [e1, ← e2]; exact hzy.symm)
  subst exw
  rcases hp with hp | ⟨q, hq, hqe⟩
  ·have := hwp.2; omega
  ·obtain ⟨j, hj⟩ := List.mem_iff_getElem?.1 hq
   have hjl := (List.getElem?_eq_some_iff.1 hj).1
   rw [List.length_take] at hjl
   rw [List.getElem?_take_of_lt (by omega)] at hj
   have e3 : q.id = f.id := by rw [hqe]; exact hwp.2
   have h1 : (l.map (·.id))[j]? = some q.id := by rw [List.getElem?_map, hj]; rfl
   have h2 : (l.map (·.id))[i]? = some q.id := by rw [List.getElem?_map, hf, e3]; rfl
   have := (List.getElem?_inj (by rw [List.length_map]; omega) g.once).1 (h1.trans h2.symm)
   omega
 ·rw [htk]
  rcases List.mem_append.1 hy with hy | hy
  ·obtain ⟨x, hx, e, hp⟩ := g.part y hy
   refine ⟨x, hx, e, hp.imp id fun ⟨q, hq, hqe⟩ => ⟨q, ?_, hqe⟩⟩
   exact (List.take_sublist_take_left (by omega)).subset hq
  ·obtain ⟨x, hx, e⟩ := mem_named hy
   have := kids_par hx
   exact ⟨x, this.1, e.symm, .inr ⟨f, hft, this.2.symm⟩⟩
theorem Gw.len {T : Ths} {i : Nat} {l : List Fi} (g : Gw T i l) : l.length ≤ T.length := by
 have h : ∀ a ∈ l.map (·.id), a ∈ T.map (·.id) := fun a ha => by
  obtain ⟨f, hf, rfl⟩ := List.mem_map.1 ha
  obtain ⟨x, hx, e, _⟩ := g.part f hf
  exact List.mem_map.2 ⟨x, hx, e⟩
 have := Names.nodup_le g.once h
 simpa using this
end Go.Img
/- Paths ordered name by name, as plain data: a / goes ahead of each byte, an end ahead of a /; no program text is named here. -/
namespace Go.Img
open Go.RowKit Go.Sort
/-- What a byte stands for in a path's order. -/
def ky (c : UInt8) : Nat := if c = 47 then 0 else c.toNat + 1
theorem ky_inj {a b : UInt8} (h : ky a = ky b) : a = b := by
 unfold ky at h
 split at h <;> split at h
 ·rename_i h1 h2; rw [h1, h2]
 ·omega
 ·omega
 ·exact UInt8.toNat_inj.1 (by omega)
def cmpP : List UInt8 → List UInt8 → Int
 | [], [] => 0
 | [], _ :: _ => -1
 | _ :: _, [] => 1
 | a :: x, b :: y => if a = b then cmpP x y else if ky a < ky b then -1 else 1
theorem cmpP_self : ∀ x : List UInt8, cmpP x x = 0
 | [] => rfl
 | a :: x => by unfold cmpP; rw [if_pos rfl]; exact cmpP_self x
theorem cmpP_eq : ∀ {x y : List UInt8}, cmpP x y = 0 → x = y
 | [], [], _ => rfl
 | [], _ :: _, h => by unfold cmpP at h; omega
 | _ :: _, [], h => by unfold cmpP at h; omega
 | a :: x, b :: y, h => by
  unfold cmpP at h
  split at h
  ·rename_i e; rw [e, cmpP_eq h]
  ·split at h <;> omega
theorem cmpP_swap : ∀ x y : List UInt8, cmpP y x = -cmpP x y
 | [], [] => rfl
 | [], _ :: _ => rfl
 | _ :: _, [] => rfl
 | a :: x, b :: y => by
  unfold cmpP
  by_cases e : a = b
  ·rw [if_pos e, if_pos e.symm]; exact cmpP_swap x y
  ·rw [if_neg e, if_neg (fun h => e h.symm)]
   have : ky a ≠ ky b := fun h => e (ky_inj h)
   by_cases h1 : ky a < ky b
   ·rw [if_pos h1, if_neg (by omega)]; rfl
   ·rw [if_neg h1, if_pos (by omega)]
theorem cmpP_one : ∀ x y : List UInt8, cmpP x y = -1 ∨ cmpP x y = 0 ∨ cmpP x y = 1
 | [], [] => .inr (.inl rfl)
 | [], _ :: _ => .inl rfl
 | _ :: _, [] => .inr (.inr rfl)
 | a :: x, b :: y => by
  unfold cmpP
  split
  ·exact cmpP_one x y
  ·split
   ·exact .inl rfl
   ·exact .inr (.inr rfl)
theorem cmpP_trans : ∀ {x y z : List UInt8}, cmpP x y < 0 → cmpP y z < 0 → cmpP x z < 0
 | [], [], _, h, _ => by simp [cmpP] at h
 | [], _ :: _, [], _, h => by simp [cmpP] at h
 | [], _ :: _, _ :: _, _, _ => by simp [cmpP]
 | _ :: _, [], _, h, _ => by simp [cmpP] at h
 | _ :: _, _ :: _, [], _, h => by simp [cmpP] at h
 | a :: x, b :: y, c :: z, h, k => by
  unfold cmpP at h k ⊢
  by_cases e1 : a = b
  ·subst e1
   rw [if_pos rfl] at h
   by_cases e2 : a = c
   ·rw [if_pos e2] at k ⊢; exact cmpP_trans h k
   ·rw [if_neg e2] at k ⊢; exact k
  ·rw [if_neg e1] at h
   have h1 : ky a < ky b := by by_cases q : ky a < ky b; exact q; rw [if_neg q] at h; omega
   by_cases e2 : b = c
   ·subst e2
    rw [if_neg e1, if_pos h1]; decide
   ·rw [if_neg e2] at k
    have h2 : ky b < ky c := by by_cases q : ky b < ky c; exact q; rw [if_neg q] at k; omega
    have e3 : a ≠ c := fun e => by rw [e] at h1; omega
    rw [if_neg e3, if_pos (by omega)]; decide
/-- Files ordered by their paths. -/
def cmpF (a b : Fi) : Int := cmpP a.path b.path
def ltF (a b : Fi) : Bool := decide (cmpF a b < 0)
theorem swoF : SWO ltF := by
 refine ⟨fun x => ?_, fun x y z h k => ?_, fun x y z h k => ?_⟩
 ·unfold ltF cmpF; rw [cmpP_self]; rfl
 ·unfold ltF cmpF at *
  rw [decide_eq_true_iff] at *
  exact cmpP_trans h k
 ·unfold ltF cmpF at *
  rw [decide_eq_false_iff_not] at *
  intro hz
  rcases cmpP_one x.path y.path with e | e | e
  ·omega
  ·rw [cmpP_eq e] at hz; exact k hz
  ·rcases cmpP_one y.path z.path with e2 | e2 | e2
   ·omega
   ·rw [← cmpP_eq e2] at hz; omega
   ·have h1 : cmpP z.path y.path < 0 := by rw [cmpP_swap y.path z.path]; omega
    have h2 := cmpP_trans hz h1
    omega
end Go.Img
/- The image of a tree by the document, folder by folder, and by the program: the same files; no program text is named here. -/
namespace Go.Img
open Go.RowKit Go.Mov
/-- One more, in order. -/
def insF (l : List Fi) (f : Fi) : List Fi := l.takeWhile (fun x => ltF x f) ++ f :: l.dropWhile (fun x => ltF x f)
theorem insF_perm (l : List Fi) (f : Fi) : (insF l f).Perm (f :: l) := by
 unfold insF
 refine List.perm_middle.trans ?_
 rw [List.takeWhile_append_dropWhile]
theorem mem_insF {l : List Fi} {f y : Fi} : y ∈ insF l f ↔ y = f ∨ y ∈ l := by
 rw [(insF_perm l f).mem_iff, List.mem_cons]
theorem mem_foldl_insF {y : Fi} : ∀ {r l : List Fi}, y ∈ r.foldl insF l ↔ y ∈ r ∨ y ∈ l
 | [], l => by simp
 | f :: r, l => by
  rw [List.foldl_cons, mem_foldl_insF, mem_insF, List.mem_cons]
  constructor
  ·rintro (h | h | h)
   ·exact .inl (.inr h)
   ·exact .inl (.inl h)
   ·exact .inr h
  ·rintro ((h | h) | h)
   ·exact .inr (.inl h)
   ·exact .inl h
   ·exact .inr (.inr h)
/-- The image of a folder, by the document. -/
def docOf (T : Ths) : Nat → Int → List UInt8 → List Fi
 | 0, _, _ => []
 | n + 1, k, f => (named f (kidsOf T k)).foldl (fun out y => if y.dir then (docOf T n y.id y.path).foldl insF (insF out y) else insF out y) []
theorem mem_docOf {T : Ths} {n : Nat} {k : Int} {f : List UInt8} {y : Fi} : y ∈ docOf T (n + 1) k f ↔ ∃ z ∈ named f (kidsOf T k), y = z ∨ (z.dir = true ∧ y ∈ docOf T n z.id z.path) := by
 show y ∈ (named f (kidsOf T k)).foldl (fun out y => if y.dir then (docOf T n y.id y.path).foldl insF (insF out y) else insF out y) [] ↔ _
 suffices H : ∀ (xs out : List Fi), y ∈ xs.foldl (fun out y => if y.dir then (docOf T n y.id y.path).foldl insF (insF out y) else insF out y) out ↔ y ∈ out ∨ ∃ z ∈ xs, y = z ∨ (z.dir = true ∧ y ∈ docOf T n z.id z.path) by
  rw [H]
  simp
 intro xs
 induction xs with
 | nil => intro out; simp
 | cons z r ih =>
  intro out
  rw [List.foldl_cons, ih]
  have e : y ∈ (if z.dir then (docOf T n z.id z.path).foldl insF (insF out z) else insF out z) ↔ y ∈ out ∨ (y = z ∨ (z.dir = true ∧ y ∈ docOf T n z.id z.path)) := by
   cases hd : z.dir with
   | true =>
    rw [if_pos rfl, mem_foldl_insF, mem_insF]
    constructor
    ·rintro (h | h | h)
     ·exact .inr (.inr ⟨rfl, h⟩)
     ·exact .inr (.inl h)
     ·exact .inl h
    ·rintro (h | h | ⟨_, h⟩)
     ·exact .inr (.inr h)
     ·exact .inr (.inl h)
     ·exact .inl h
   | false =>
    rw [if_neg (by decide), mem_insF]
    constructor
    ·rintro (h | h)
     ·exact .inr (.inl h)
     ·exact .inl h
    ·rintro (h | h | ⟨h, _⟩)
     ·exact .inr h
     ·exact .inl h
     ·cases h
  rw [e]
  constructor
  ·rintro ((h | h) | ⟨w, hw, h⟩)
   ·exact .inl h
   ·exact .inr ⟨z, by simp, h⟩
   ·exact .inr ⟨w, by simp [hw], h⟩
  ·rintro (h | ⟨w, hw, h⟩)
   ·exact .inl (.inl h)
   ·rcases List.mem_cons.1 hw with rfl | hw
    ·exact .inl (.inr h)
    ·exact .inr ⟨w, hw, h⟩
/-- What is met below a folder. -/
inductive Met (T : Ths) : Int → List UInt8 → Fi → Prop
 | here {k : Int} {f : List UInt8} {y : Fi} : y ∈ named f (kidsOf T k) → Met T k f y
 | deep {k : Int} {f : List UInt8} {z y : Fi} : z ∈ named f (kidsOf T k) → Met T z.id z.path y → Met T k f y
theorem Met.next {T : Ths} {k : Int} {f : List UInt8} {g y : Fi} (h : Met T k f g) (hy : y ∈ named g.path (kidsOf T g.id)) : Met T k f y := by
 induction h with
 | here hz => exact .deep hz (.here hy)
 | deep hz _ ih => exact .deep hz (ih hy)
/-- Nothing stands below what is no folder. -/
def Dirs (T : Ths) : Prop := ∀ x ∈ T, x.par = 0 ∨ x.par = 1 ∨ ∃ y ∈ T, y.id = x.par ∧ y.dir = true
theorem kids_none {T : Ths} (h : Fine T) (hd : Dirs T) {x : Th} (hx : x ∈ T) (hn : x.dir = false) : kidsOf T x.id = [] := by
 cases e : kidsOf T x.id with
 | nil => rfl
 | cons z r =>
  have hz := kids_par (show z ∈ kidsOf T x.id by rw [e]; simp)
  have hx1 := h.top x hx
  rcases hd z hz.1 with h1 | h1 | ⟨y, hy, h1, h2⟩
  ·omega
  ·omega
  ·have : y = x := unique h.rises hy hx (h1.trans hz.2)
   rw [this, hn] at h2
   cases h2
theorem named_long {f : List UInt8} {xs : Ths} (hl : xs.length ≤ 900) {y : Fi} (h : y ∈ named f xs) : f.length < y.path.length ∧ y.path.length ≤ 238 := by
 unfold named at h
 obtain ⟨p, hp, h2⟩ := List.mem_filterMap.1 h
 have hn := Names.asg_legal (xs.map nameOf) (by rw [List.length_map]; exact hl) p.2 (List.of_mem_zip hp).2
 unfold Names.legal at hn
 simp only [Bool.and_eq_true, decide_eq_true_eq] at hn
 unfold fileAt at h2
 split at h2
 ·rename_i hle
  cases h2
  refine ⟨?_, hle⟩
  show f.length < (join f p.2).length
  unfold join
  split
  ·rename_i e; rw [e]; simp; omega
  ·rw [List.length_append, List.length_cons]; omega
 ·cases h2
theorem named_thing {T : Ths} {f : List UInt8} {k : Int} {y : Fi} (h : y ∈ named f (kidsOf T k)) : ∃ x ∈ T, x.id = y.id ∧ x.dir = y.dir := by
 unfold named at h
 obtain ⟨p, hp, h2⟩ := List.mem_filterMap.1 h
 have hx := kids_par (List.of_mem_zip hp).1
 unfold fileAt at h2
 split at h2
 ·cases h2; exact ⟨p.1, hx.1, rfl, rfl⟩
 ·cases h2
theorem doc_met {T : Ths} (h : Fine T) (hd : Dirs T) (hl : T.length ≤ 900) : ∀ (n : Nat) (k : Int) (f : List UInt8), 240 ≤ n + f.length → f.length ≤ 238 → ∀ y, (y ∈ docOf T n k f ↔ Met T k f y)
 | 0, k, f, hn, hf, y => by omega
 | n + 1, k, f, hn, hf, y => by
  have hk : (kidsOf T k).length ≤ 900 := Nat.le_trans (List.length_filter_le _ _) hl
  rw [mem_docOf]
  constructor
  ·rintro ⟨z, hz, rfl | ⟨_, h2⟩⟩
   ·exact .here hz
   ·have := named_long hk hz
    exact .deep hz ((doc_met h hd hl n z.id z.path (by omega) this.2 y).1 h2)
  ·intro hm
   cases hm with
   | here hz => exact ⟨y, hz, .inl rfl⟩
   | deep hz hm =>
    rename_i z
    have hlong := named_long hk hz
    refine ⟨z, hz, .inr ⟨?_, (doc_met h hd hl n z.id z.path (by omega) hlong.2 y).2 hm⟩⟩
    obtain ⟨x, hx, e1, e2⟩ := named_thing hz
    cases hzd : z.dir with
    | true => rfl
    | false =>
     have hkn := kids_none h hd hx (e2.trans hzd)
     rw [e1] at hkn
     cases hm with
     | here hy => rw [hkn] at hy; simp [named] at hy
     | deep hy _ => rw [hkn] at hy; simp [named] at hy
/-- What the program gathers has just what is met. -/
structure Cl (T : Ths) (i : Nat) (l : List Fi) : Prop where
 met : ∀ y ∈ l, Met T 0 [] y
 first : ∀ y ∈ start T, y ∈ l
 done : ∀ g ∈ l.take i, ∀ y ∈ named g.path (kidsOf T g.id), y ∈ l
theorem Cl.start (T : Ths) : Cl T 0 (start T) := ⟨fun _ hy => .here hy, fun _ hy => hy, fun g hg => by simp at hg⟩
theorem Cl.next {T : Ths} {i : Nat} {l : List Fi} (c : Cl T i l) {f : Fi} (hf : l[i]? = some f) : Cl T (i + 1) (l ++ named f.path (kidsOf T f.id)) := by
 have hil := (List.getElem?_eq_some_iff.1 hf).1
 refine ⟨fun y hy => ?_, fun y hy => List.mem_append.2 (.inl (c.first y hy)), fun g hg y hy => ?_⟩
 ·rcases List.mem_append.1 hy with hy | hy
  ·exact c.met y hy
  ·exact (c.met f (List.mem_of_getElem? hf)).next hy
 ·rw [List.take_append_of_le_length (by omega), List.take_add_one, hf] at hg
  rcases List.mem_append.1 hg with hg | hg
  ·exact List.mem_append.2 (.inl (c.done g hg y hy))
  ·simp at hg
   subst hg
   exact List.mem_append.2 (.inr hy)
theorem Cl.all {T : Ths} {l : List Fi} (c : Cl T l.length l) {y : Fi} : y ∈ l ↔ Met T 0 [] y := by
 refine ⟨c.met y, fun h => ?_⟩
 have hcl : ∀ g ∈ l, ∀ y ∈ named g.path (kidsOf T g.id), y ∈ l := fun g hg => c.done g (by rw [List.take_length]; exact hg)
 suffices H : ∀ k f y, Met T k f y → (∀ z ∈ named f (kidsOf T k), z ∈ l) → y ∈ l from H 0 [] y h c.first
 intro k f y h
 induction h with
 | here hz => intro hin; exact hin _ hz
 | deep hz _ ih => intro hin; exact ih (hcl _ (hin _ hz))
end Go.Img
/- In an image no two paths are the same, not even folded; no program text is named here. -/
namespace Go.Img
open Go.RowKit Go.Names
open Go.Mov hiding fold
theorem zip_once {α : Type} {xs : List α} {ns : List (List UInt8)} (hn : (ns.map fold).Nodup) {p q : α × List UInt8} (hp : p ∈ xs.zip ns) (hq : q ∈ xs.zip ns) (h : fold p.2 = fold q.2) : p = q := by
 obtain ⟨i, hi⟩ := List.mem_iff_getElem?.1 hp
 obtain ⟨j, hj⟩ := List.mem_iff_getElem?.1 hq
 obtain ⟨a1, a2⟩ := List.getElem?_zip_eq_some.1 hi
 obtain ⟨b1, b2⟩ := List.getElem?_zip_eq_some.1 hj
 have e1 : (ns.map fold)[i]? = some (fold p.2) := by rw [List.getElem?_map, a2]; rfl
 have e2 : (ns.map fold)[j]? = some (fold p.2) := by rw [List.getElem?_map, b2, h]; rfl
 have hlt : i < (ns.map fold).length := (List.getElem?_eq_some_iff.1 e1).1
 have e : i = j := (List.getElem?_inj hlt hn).1 (e1.trans e2.symm)
 subst e
 rw [a1] at b1
 rw [a2] at b2
 have h1 := Option.some.inj b1
 have h2 := Option.some.inj b2
 exact Prod.ext h1 h2
theorem low_slash {c : UInt8} : low c = 47 ↔ c = 47 := by
 constructor
 ·intro h
  unfold low at h
  split at h
  ·rename_i hc
   have e : (c + 32).toNat = 47 := by rw [h]; decide
   rw [UInt8.toNat_add] at e
   have h3 : (32 : UInt8).toNat = 32 := by decide
   rw [h3] at e
   omega
  ·exact h
 ·rintro rfl; decide
theorem slash_no {s : List UInt8} (h : legal s = true) : 47 ∉ fold s := by
 intro hm
 unfold fold at hm
 obtain ⟨c, hc, e⟩ := List.mem_map.1 hm
 rw [low_slash] at e
 subst e
 unfold legal at h
 simp only [Bool.and_eq_true] at h
 have := List.all_eq_true.1 h.1.2 47 hc
 exact absurd this (by decide)
/-- What is cut off at a slash. -/
theorem cut_slash {a b x y : List UInt8} (ha : 47 ∉ a) (hb : 47 ∉ b) (hx : x = [] ∨ ∃ r, x = 47 :: r) (hy : y = [] ∨ ∃ r, y = 47 :: r) (h : a ++ x = b ++ y) : a = b ∧ x = y := by
 induction a generalizing b with
 | nil =>
  cases b with
  | nil => exact ⟨rfl, by simpa using h⟩
  | cons c b =>
   rcases hx with rfl | ⟨r, rfl⟩
   ·simp at h
   ·simp at h
    exact absurd (by rw [← h.1]; simp) hb
 | cons c a ih =>
  cases b with
  | nil =>
   rcases hy with rfl | ⟨r, rfl⟩
   ·simp at h
   ·simp at h
    exact absurd (by rw [h.1]; simp) ha
  | cons d b =>
   simp only [List.cons_append, List.cons.injEq] at h
   have := ih (fun hm => ha (by simp [hm])) (fun hm => hb (by simp [hm])) h.2
   exact ⟨by rw [h.1, this.1], this.2⟩
/-- The text ahead of a folder's names. -/
def head (f : List UInt8) : List UInt8 := if f = [] then [] else f ++ [47]
theorem head_ne {f : List UInt8} (h : f ≠ []) : head f = f ++ [47] := by unfold head; rw [if_neg h]
theorem join_head (f s : List UInt8) : join f s = head f ++ s := by
 unfold join head
 split
 ·rfl
 ·simp
theorem named_at {f : List UInt8} {xs : Ths} {y : Fi} (h : y ∈ named f xs) : ∃ p ∈ xs.zip (asg (xs.map nameOf)), y = ⟨head f ++ p.2, p.1.dir, p.1.id, p.1.dg, p.1.size⟩ := by
 unfold named at h
 obtain ⟨p, hp, h2⟩ := List.mem_filterMap.1 h
 refine ⟨p, hp, ?_⟩
 unfold fileAt at h2
 split at h2
 ·cases h2; rw [join_head]
 ·cases h2
/-- What is met below a folder has its path ahead. -/
theorem met_head {T : Ths} {k : Int} {f : List UInt8} {y : Fi} (h : Met T k f y) : ∃ r, y.path = head f ++ r := by
 induction h with
 | @here k f y hz => obtain ⟨p, _, rfl⟩ := named_at hz; exact ⟨_, rfl⟩
 | @deep k f z y hz _ ih =>
  obtain ⟨p, _, rfl⟩ := named_at hz
  obtain ⟨r, hr⟩ := ih
  dsimp only at hr
  by_cases e : head f ++ p.2 = []
  ·have h1 := (List.append_eq_nil_iff.1 e).1
   rw [e] at hr
   exact ⟨r, by rw [hr, h1]; rfl⟩
  ·rw [head_ne e] at hr
   exact ⟨p.2 ++ [47] ++ r, by rw [hr]; simp⟩
theorem met_once {T : Ths} (hl : T.length ≤ 900) {k : Int} {f : List UInt8} {y : Fi} (h : Met T k f y) : ∀ {y' : Fi}, Met T k f y' → fold y.path = fold y'.path → y = y' := by
 have shape : ∀ {k : Int} {f : List UInt8} {y : Fi}, Met T k f y → ∃ p ∈ (kidsOf T k).zip (asg ((kidsOf T k).map nameOf)), ∃ r, y.path = head f ++ (p.2 ++ r) ∧ ((r = [] ∧ y = ⟨head f ++ p.2, p.1.dir, p.1.id, p.1.dg, p.1.size⟩) ∨ ((∃ q, r = 47 :: q) ∧ Met T p.1.id (head f ++ p.2) y)) := by
  intro k f y h
  cases h with
  | here hz =>
   obtain ⟨p, hp, rfl⟩ := named_at hz
   exact ⟨p, hp, [], by simp, .inl ⟨rfl, rfl⟩⟩
  | deep hz hm =>
   obtain ⟨p, hp, rfl⟩ := named_at hz
   obtain ⟨r, hr⟩ := met_head hm
   have hleg := asg_legal ((kidsOf T k).map nameOf) (by rw [List.length_map]; exact Nat.le_trans (List.length_filter_le _ _) hl) p.2 (List.of_mem_zip hp).2
   have hne : head f ++ p.2 ≠ [] := by
    intro e
    have := (List.append_eq_nil_iff.1 e).2
    rw [this] at hleg
    simp [legal] at hleg
   refine ⟨p, hp, 47 :: r, ?_, .inr ⟨⟨r, rfl⟩, hm⟩⟩
   dsimp only at hr
   rw [hr, head_ne hne]
   simp
 have once : ∀ {k : Int} {f : List UInt8} {y y' : Fi} {p p' : Th × List UInt8} {r r' : List UInt8}, p ∈ (kidsOf T k).zip (asg ((kidsOf T k).map nameOf)) → p' ∈ (kidsOf T k).zip (asg ((kidsOf T k).map nameOf)) → y.path = head f ++ (p.2 ++ r) → y'.path = head f ++ (p'.2 ++ r') → (r = [] ∨ ∃ q, r = 47 :: q) → (r' = [] ∨ ∃ q, r' = 47 :: q) → fold y.path = fold y'.path → p = p' ∧ fold r = fold r' := by
  intro k f y y' p p' r r' hp hp' e e' hr hr' hf
  have hkl : ((kidsOf T k).map nameOf).length ≤ 900 := by rw [List.length_map]; exact Nat.le_trans (List.length_filter_le _ _) hl
  have l1 := slash_no (asg_legal _ hkl p.2 (List.of_mem_zip hp).2)
  have l2 := slash_no (asg_legal _ hkl p'.2 (List.of_mem_zip hp').2)
  rw [e, e'] at hf
  simp only [fold_append] at hf
  have hf := List.append_cancel_left hf
  have sl : ∀ {r : List UInt8}, (r = [] ∨ ∃ q, r = 47 :: q) → (fold r = [] ∨ ∃ q, fold r = 47 :: q) := by
   rintro r (rfl | ⟨q, rfl⟩)
   ·exact .inl rfl
   ·exact .inr ⟨fold q, by unfold fold; rw [List.map_cons]; congr 1⟩
  have := cut_slash l1 l2 (sl hr) (sl hr') hf
  exact ⟨zip_once (asg_nodup _) hp hp' this.1, this.2⟩
 induction h with
 | @here k f y hz =>
  intro y' h' hf
  obtain ⟨p, hp, r, e, hc⟩ := shape (.here hz)
  obtain ⟨p', hp', r', e', hc'⟩ := shape h'
  obtain ⟨q, hq, rfl⟩ := named_at hz
  have hr0 : (∃ s, head f ++ q.2 = head f ++ (p.2 ++ s)) := ⟨r, e⟩
  have o1 := once (y := ⟨head f ++ q.2, q.1.dir, q.1.id, q.1.dg, q.1.size⟩) (y' := y') (r := []) hq hp' (by simp) e' (.inl rfl) (by rcases hc' with ⟨h, _⟩ | ⟨h, _⟩; exact .inl h; exact .inr h) hf
  rcases hc' with ⟨_, rfl⟩ | ⟨⟨s, rfl⟩, _⟩
  ·rw [o1.1]
  ·exact absurd o1.2 (by unfold fold; simp)
 | @deep k f z y hz hm ih =>
  intro y' h' hf
  obtain ⟨p', hp', r', e', hc'⟩ := shape h'
  obtain ⟨q, hq, rfl⟩ := named_at hz
  obtain ⟨r, hr⟩ := met_head hm
  have hleg := asg_legal ((kidsOf T k).map nameOf) (by rw [List.length_map]; exact Nat.le_trans (List.length_filter_le _ _) hl) q.2 (List.of_mem_zip hq).2
  have hne : head f ++ q.2 ≠ [] := by
   intro e
   have := (List.append_eq_nil_iff.1 e).2
   rw [this] at hleg
   simp [legal] at hleg
  have hyp : y.path = head f ++ (q.2 ++ 47 :: r) := by
   dsimp only at hr
   rw [hr, head_ne hne]
   simp
  have o1 := once (y := y) (y' := y') hq hp' hyp e' (.inr ⟨r, rfl⟩) (by rcases hc' with ⟨h, _⟩ | ⟨h, _⟩; exact .inl h; exact .inr h) hf
  rcases hc' with ⟨rfl, _⟩ | ⟨_, hm'⟩
  ·exact absurd o1.2 (by unfold fold; simp)
  ·rw [← o1.1] at hm'
   exact ih hm' hf
end Go.Img
