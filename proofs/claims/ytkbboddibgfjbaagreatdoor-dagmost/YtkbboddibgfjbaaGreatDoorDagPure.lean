/- Several texts in one: DagMath, MadeMath, DagAwakeMath. -/
import Derived.Test.YtkbboddibgfjbaaGreatDoorMapAll
import Derived.Test.YtkbboddibgfjbaaGreatDoorNodeThree
/- Nodes behind one another, as plain data: which are taken, which wait; no program text is named here. -/
namespace Go.Dag
open Go.Nod Go.MapFun
/-- Nodes by their digests. -/
abbrev Ns := List (ByteArray × Nd)
/-- Is a parent there, with a count that is not lesser? -/
def lateAt (T : Ns) (c : Int) (p : ByteArray) : Bool := match lk T p with
  | some q => decide (c ≤ q.op.tm.c)
  | none => false
/-- The parents that are not there. -/
def away (T : Ns) (ps : List ByteArray) : List ByteArray := ps.filter fun p => (lk T p).isNone
/-- Why a node is not behind its parents: its number; 0: it is. -/
def unfit (T : Ns) (n : Nd) : Int := if n.ps.any (lateAt T n.op.tm.c) = true then 122 else if away T n.ps = [] then 0 else 123
theorem unfit_is (T : Ns) (n : Nd) : unfit T n = 0 ∨ unfit T n = 122 ∨ unfit T n = 123 := by
  unfold unfit
  split
  · exact .inr (.inl rfl)
  · split
    · exact .inl rfl
    · exact .inr (.inr rfl)
/-- Those that were taken, and those that wait. -/
structure Dg where
  taken : Ns
  waits : Ns
/-- One that waits is looked at: those that are there, those that still wait, the digests that were taken. -/
def step (st : Ns × Ns × List ByteArray) (x : ByteArray × Nd) : Ns × Ns × List ByteArray :=
  if unfit st.1 x.2 = 123 then (st.1, st.2.1 ++ [x], st.2.2) else if unfit st.1 x.2 = 0 then (st.1 ++ [x], st.2.1, st.2.2 ++ [x.1]) else st
def rnd (T W : Ns) : Ns × Ns × List ByteArray := W.foldl step (T, [], [])
/-- Once over those that wait. -/
def Dg.round (d : Dg) : Dg := ⟨(rnd d.taken d.waits).1, (rnd d.taken d.waits).2.1⟩
def Dg.got (d : Dg) : List ByteArray := (rnd d.taken d.waits).2.2
/-- Again and again. -/
def settleF : Nat → Dg → Dg × List ByteArray
  | 0, d => (d, [])
  | k + 1, d => if d.got = [] then (d.round, []) else ((settleF k d.round).1, d.got ++ (settleF k d.round).2)
def Dg.settle (d : Dg) : Dg × List ByteArray := settleF (d.waits.length + 1) d
/-- How many of an author wait. -/
def ofAuthor (l : Ns) (a : Int) : Nat := (l.filter fun x => decide (x.2.au = a)).length
/-- Why a node with a digest is refused; 0: it is not. -/
def Dg.refuses (d : Dg) (h : ByteArray) (n : Nd) : Int :=
  if (lk d.taken h).isSome = true ∨ (lk d.waits h).isSome = true then 121 else if unfit d.taken n = 123 ∧ 8 ≤ ofAuthor d.waits n.au then 3 else unfit d.taken n
/-- A node that is right, with its digest. -/
def Dg.come (d : Dg) (h : ByteArray) (n : Nd) : Dg × List ByteArray × Int :=
  if d.refuses h n = 123 then (⟨d.taken, d.waits ++ [(h, n)]⟩, [], 123)
  else if d.refuses h n = 0 then ((Dg.settle ⟨d.taken ++ [(h, n)], d.waits⟩).1, h :: (Dg.settle ⟨d.taken ++ [(h, n)], d.waits⟩).2, 0)
  else (d, [], d.refuses h n)
/-- Bytes that come. -/
def Dg.add (d : Dg) (ks : List ByteArray) (s : ByteArray) : Dg × List ByteArray × Int :=
  if decE s ≠ 0 then (d, [], decE s)
  else if (decN s).right ks = false then (d, [], 120)
  else d.come (tagD (decN s).body) (decN s)
/-- Heads, with their counts. -/
def hstep (H : List (ByteArray × Int)) (x : ByteArray × Nd) : List (ByteArray × Int) := x.2.ps.foldl cut H ++ [(x.1, x.2.op.tm.c)]
def hds (T : Ns) : List (ByteArray × Int) := T.foldl hstep []
theorem hds_append (T : Ns) (x : ByteArray × Nd) : hds (T ++ [x]) = hstep (hds T) x := by simp [hds, List.foldl_append]
theorem mem_cuts {y : ByteArray × Int} : ∀ {ps : List ByteArray} {H : List (ByteArray × Int)}, y ∈ ps.foldl cut H ↔ y ∈ H ∧ y.1 ∉ ps
  | [], H => by simp
  | p :: ps, H => by
    rw [List.foldl_cons, mem_cuts, mem_cut]
    simp only [List.mem_cons, not_or]
    exact ⟨fun ⟨⟨a, b⟩, c⟩ => ⟨a, b, c⟩, fun ⟨a, b, c⟩ => ⟨⟨a, b⟩, c⟩⟩
theorem hds_in : ∀ (T : Ns) {y : ByteArray × Int}, y ∈ hds T → ∃ x ∈ T, x.1 = y.1 ∧ x.2.op.tm.c = y.2 := by
  intro T
  have : ∀ (l : Ns) (H : List (ByteArray × Int)) {y : ByteArray × Int}, y ∈ l.foldl hstep H → y ∈ H ∨ ∃ x ∈ l, x.1 = y.1 ∧ x.2.op.tm.c = y.2 := by
    intro l
    induction l with
    | nil => intro H y h; exact .inl h
    | cons x l ih =>
      intro H y h
      rcases ih _ h with h | ⟨z, hz, e⟩
      · unfold hstep at h
        rcases List.mem_append.1 h with h | h
        · exact .inl (mem_cuts.1 h).1
        · rw [List.mem_singleton.1 h]
          exact .inr ⟨x, by simp, rfl, rfl⟩
      · exact .inr ⟨z, by simp [hz], e⟩
  intro y h
  rcases this T [] h with h | h
  · cases h
  · exact h
/-- All digests differ; all nodes may be. -/
structure Ok (l : Ns) : Prop where
  nodup : (l.map (·.1)).Nodup
  good : ∀ x ∈ l, x.1.size = 32 ∧ x.2.Good
theorem Ok.sub {l r : Ns} (h : Ok l) (hs : r.Sublist l) : Ok r := ⟨h.nodup.sublist (hs.map _), fun x hx => h.good x (hs.subset hx)⟩
theorem Ok.perm {l r : Ns} (h : Ok l) (hp : l.Perm r) : Ok r := ⟨(hp.map _).nodup_iff.1 h.nodup, fun x hx => h.good x (hp.mem_iff.2 hx)⟩
theorem Ok.snoc {l : Ns} (h : Ok l) {x : ByteArray × Nd} (h1 : lk l x.1 = none) (h2 : x.1.size = 32) (h3 : x.2.Good) : Ok (l ++ [x]) := by
  refine ⟨?_, fun y hy => ?_⟩
  · rw [List.map_append, List.nodup_append]
    refine ⟨h.nodup, by simp, fun a ha b hb => ?_⟩
    obtain ⟨p, hp, rfl⟩ := List.mem_map.1 ha
    have : b = x.1 := by simpa using hb
    subst this
    exact lk_none.1 h1 p hp
  · rcases List.mem_append.1 hy with hy | hy
    · exact h.good y hy
    · rw [List.mem_singleton.1 hy]; exact ⟨h2, h3⟩
def Dg.Ok (d : Dg) : Prop := Go.Dag.Ok (d.taken ++ d.waits)
/-- While it is gone over those that wait: nothing is lost but what goes. -/
theorem step_ok {T S R : Ns} {O : List ByteArray} {x : ByteArray × Nd} (h : Go.Dag.Ok (T ++ (S ++ x :: R))) : Go.Dag.Ok ((step (T, S, O) x).1 ++ ((step (T, S, O) x).2.1 ++ R)) := by
  unfold step
  split
  · simpa using h
  · split
    · refine h.perm ?_
      dsimp only
      rw [List.append_assoc]
      exact List.Perm.append_left T (List.perm_middle)
    · refine h.sub ?_
      exact List.Sublist.append_left (List.Sublist.append_left (List.sublist_cons_self x R) S) T
theorem step_length {T S : Ns} {O : List ByteArray} {x : ByteArray × Nd} : (step (T, S, O) x).1.length + (step (T, S, O) x).2.1.length ≤ T.length + S.length + 1 := by
  unfold step
  split
  · simp; omega
  · split
    · simp; omega
    · dsimp only; omega
theorem rnd_take (T W : Ns) {i : Nat} {x : ByteArray × Nd} (h : W[i]? = some x) : rnd T (W.take (i + 1)) = step (rnd T (W.take i)) x := by
  have e : W.take (i + 1) = W.take i ++ [x] := by
    rw [List.take_add_one, h]; rfl
  unfold rnd
  rw [e, List.foldl_append]
  rfl
theorem rnd_ok {T W : Ns} (h : Go.Dag.Ok (T ++ W)) : ∀ i, i ≤ W.length → Go.Dag.Ok ((rnd T (W.take i)).1 ++ ((rnd T (W.take i)).2.1 ++ W.drop i))
  | 0, _ => by simpa [rnd] using h
  | i + 1, hi => by
    have hx : W[i]? = some W[i] := List.getElem?_eq_getElem (by omega)
    have ih := rnd_ok h i (by omega)
    rw [List.drop_eq_getElem_cons (by omega)] at ih
    rw [rnd_take T W hx]
    exact step_ok ih
theorem rnd_length (T W : Ns) : ∀ i, i ≤ W.length → (rnd T (W.take i)).1.length + (rnd T (W.take i)).2.1.length ≤ T.length + i
  | 0, _ => by simp [rnd]
  | i + 1, hi => by
    have hx : W[i]? = some W[i] := List.getElem?_eq_getElem (by omega)
    have ih := rnd_length T W i (by omega)
    rw [rnd_take T W hx]
    have := step_length (T := (rnd T (W.take i)).1) (S := (rnd T (W.take i)).2.1) (O := (rnd T (W.take i)).2.2) (x := W[i])
    show (step ((rnd T (W.take i)).1, (rnd T (W.take i)).2.1, (rnd T (W.take i)).2.2) W[i]).1.length + (step ((rnd T (W.take i)).1, (rnd T (W.take i)).2.1, (rnd T (W.take i)).2.2) W[i]).2.1.length ≤ _
    omega
/-- What was taken in a round no longer waits. -/
theorem rnd_less (T W : Ns) : ∀ i, i ≤ W.length → (rnd T (W.take i)).2.2.length + (rnd T (W.take i)).2.1.length ≤ i
  | 0, _ => by simp [rnd]
  | i + 1, hi => by
    have hx : W[i]? = some W[i] := List.getElem?_eq_getElem (by omega)
    have ih := rnd_less T W i (by omega)
    rw [rnd_take T W hx]
    generalize rnd T (W.take i) = st at *
    unfold step
    split
    · simp; omega
    · split
      · simp; omega
      · omega
theorem Dg.Ok.round {d : Dg} (h : d.Ok) : d.round.Ok := by
  have := rnd_ok h d.waits.length (Nat.le_refl _)
  rw [List.take_length, List.drop_length, List.append_nil] at this
  exact this
theorem Dg.round_length (d : Dg) : d.round.taken.length + d.round.waits.length ≤ d.taken.length + d.waits.length := by
  have := rnd_length d.taken d.waits d.waits.length (Nat.le_refl _)
  rw [List.take_length] at this
  exact this
theorem Dg.round_less {d : Dg} (h : d.got ≠ []) : d.round.waits.length < d.waits.length := by
  have := rnd_less d.taken d.waits d.waits.length (Nat.le_refl _)
  rw [List.take_length] at this
  have h1 : 0 < d.got.length := List.length_pos_iff.2 h
  unfold Dg.got at h1
  show (rnd d.taken d.waits).2.1.length < _
  omega
theorem settleF_more : ∀ (k j : Nat) (d : Dg), d.waits.length < k → d.waits.length < j → settleF k d = settleF j d
  | 0, _, _, h, _ => by omega
  | _, 0, _, _, h => by omega
  | k + 1, j + 1, d, h, h' => by
    unfold settleF
    by_cases e : d.got = []
    · rw [if_pos e, if_pos e]
    · have := d.round_less e
      rw [if_neg e, if_neg e, settleF_more k j d.round (by omega) (by omega)]
theorem Dg.settle_end {d : Dg} (h : d.got = []) : d.settle = (d.round, []) := by
  unfold Dg.settle settleF
  rw [if_pos h]
theorem Dg.settle_more {d : Dg} (h : d.got ≠ []) : d.settle = (d.round.settle.1, d.got ++ d.round.settle.2) := by
  have := d.round_less h
  have e : settleF d.waits.length d.round = d.round.settle := settleF_more _ _ _ (by omega) (by omega)
  unfold Dg.settle
  rw [settleF, if_neg h, e]
  rfl
end Go.Dag
/- Given nodes, as plain data: a digest laid among others; no program text is named here. -/
namespace Go.Dag
open Go.Nod Go.MapFun
/-- How many of the first ones are lesser. -/
def place : List ByteArray → ByteArray → Nat
  | [], _ => 0
  | x :: r, h => if less x h = true then place r h + 1 else 0
theorem place_le : ∀ (l : List ByteArray) (h : ByteArray), place l h ≤ l.length
  | [], _ => Nat.le_refl _
  | x :: r, h => by
    have := place_le r h
    unfold place
    split
    · simp only [List.length_cons]; omega
    · exact Nat.zero_le _
theorem place_lt : ∀ {l : List ByteArray} {h : ByteArray} {j : Nat}, j < place l h → ∃ x, l[j]? = some x ∧ less x h = true
  | [], _, _, hj => by cases hj
  | x :: r, h, j, hj => by
    unfold place at hj
    split at hj
    · rename_i hx
      cases j with
      | zero => exact ⟨x, rfl, hx⟩
      | succ j => exact place_lt (l := r) (by omega)
    · cases hj
theorem place_end : ∀ {l : List ByteArray} {h x : ByteArray}, l[place l h]? = some x → less x h = false
  | [], _, _, hx => by cases hx
  | y :: r, h, x, hx => by
    unfold place at hx
    split at hx
    · exact place_end (l := r) hx
    · rename_i hy
      simp only [List.getElem?_cons_zero, Option.some.injEq] at hx
      subst hx
      simpa using hy
/-- One more digest, in its place, each once. -/
def ins (l : List ByteArray) (h : ByteArray) : List ByteArray := if l[place l h]? = some h then l else l.take (place l h) ++ h :: l.drop (place l h)
theorem ins_in {l : List ByteArray} {h : ByteArray} (e : l[place l h]? = some h) : ins l h = l := if_pos e
theorem ins_new {l : List ByteArray} {h : ByteArray} (e : l[place l h]? ≠ some h) : ins l h = l.take (place l h) ++ h :: l.drop (place l h) := if_neg e
theorem ins_mem {l : List ByteArray} {h x : ByteArray} (hx : x ∈ ins l h) : x ∈ l ∨ x = h := by
  unfold ins at hx
  split at hx
  · exact .inl hx
  · rcases List.mem_append.1 hx with hx | hx
    · exact .inl (List.mem_of_mem_take hx)
    · rcases List.mem_cons.1 hx with hx | hx
      · exact .inr hx
      · exact .inl (List.mem_of_mem_drop hx)
theorem ins_length (l : List ByteArray) (h : ByteArray) : (ins l h).length ≤ l.length + 1 := by
  unfold ins
  split
  · omega
  · simp only [List.length_append, List.length_take, List.length_cons, List.length_drop]; omega
/-- A given node: its author, its count, those it stands behind, its thing, how its tag is spoilt. -/
structure Gv where
  au : Int
  ct : Int
  bh : List Int
  th : Int
  sp : Int
/-- The last bits of a number. -/
def an (x : Int) (c : Nat) : Int := bits .and .i64 x (c : Int)
theorem an_le (x : Int) (c : Nat) (hc : c < 1000) : 0 ≤ an x c ∧ an x c ≤ c := by
  obtain ⟨m, h1, h2⟩ := Wire.and_small x c hc
  unfold an
  rw [h2]
  omega
/-- The parents, behind k of those that are named. -/
def parTo (hs : List ByteArray) (i : Nat) (bh : List Int) : Nat → List ByteArray
  | 0 => []
  | k + 1 => match bh[k]? with
    | some b => if 0 ≤ (i : Int) - 1 - an b 3 then ins (parTo hs i bh k) (hs.getD ((i : Int) - 1 - an b 3).toNat ⟨#[]⟩) else parTo hs i bh k
    | none => parTo hs i bh k
theorem parTo_length (hs : List ByteArray) (i : Nat) (bh : List Int) : ∀ k, (parTo hs i bh k).length ≤ k
  | 0 => Nat.le_refl _
  | k + 1 => by
    have ih := parTo_length hs i bh k
    unfold parTo
    split
    · split
      · exact Nat.le_trans (ins_length _ _) (by omega)
      · omega
    · omega
theorem parTo_32 {hs : List ByteArray} {i : Nat} {bh : List Int} (h32 : ∀ x ∈ hs, x.size = 32) (hi : hs.length = i) : ∀ k, ∀ x ∈ parTo hs i bh k, x.size = 32
  | 0, x, hx => by cases hx
  | k + 1, x, hx => by
    have ih := parTo_32 (bh := bh) h32 hi k
    unfold parTo at hx
    split at hx
    · rename_i b _
      split at hx
      · rename_i h0
        rcases ins_mem hx with hx | hx
        · exact ih x hx
        · have hb := an_le b 3 (by decide)
          have hlt : ((i : Int) - 1 - an b 3).toNat < hs.length := by omega
          rw [List.getD_eq_getElem?_getD, List.getElem?_eq_getElem hlt] at hx
          rw [hx]
          exact h32 _ (List.getElem_mem hlt)
      · exact ih x hx
    · exact ih x hx
def pars (hs : List ByteArray) (i : Nat) (bh : List Int) : List ByteArray := parTo hs i bh (min bh.length 3)
/-- The node. -/
def gOp (g : Gv) : Opn.Ob := ⟨3, ⟨an g.ct 63 + 1, an g.au 3⟩, 16 + an g.th 7, 0, ⟨#[]⟩, false, ⟨#[]⟩, 0⟩
def gNd (hs : List ByteArray) (i : Nat) (g : Gv) (tg : ByteArray) : Nd := ⟨an g.au 3, pars hs i g.bh, gOp g, tg⟩
theorem gOp_ok (g : Gv) : (gOp g).tm.Ok ∧ (gOp g).Good := by
  have h1 := an_le g.ct 63 (by decide)
  have h2 := an_le g.au 3 (by decide)
  have h3 := an_le g.th 7 (by decide)
  refine ⟨?_, ?_⟩
  · show 1 ≤ an g.ct 63 + 1 ∧ an g.ct 63 + 1 ≤ 281474976710655 ∧ 0 ≤ an g.au 3 ∧ an g.au 3 < 16
    omega
  · unfold Opn.Ob.Good Opn.Ob.good
    rw [Bool.and_eq_true, Bool.and_eq_true, Opn.made_iff, Opn.Ob.eqb_iff]
    refine ⟨⟨?_, rfl⟩, rfl⟩
    show 16 ≤ 16 + an g.th 7 ∧ 16 + an g.th 7 ≤ 4503599627370495
    omega
theorem gNd_sig {hs : List ByteArray} {i : Nat} (g : Gv) (tg : ByteArray) (h32 : ∀ x ∈ hs, x.size = 32) (hi : hs.length = i) : (gNd hs i g tg).Sig := by
  have h2 := an_le g.au 3 (by decide)
  refine ⟨?_, ?_, parTo_32 h32 hi _, (gOp_ok g).1, (gOp_ok g).2⟩
  · show 0 ≤ an g.au 3 ∧ an g.au 3 < 256
    omega
  · exact Nat.le_trans (parTo_length _ _ _ _) (Nat.le_trans (Nat.min_le_right _ _) (by decide))
def gHash (hs : List ByteArray) (i : Nat) (g : Gv) : ByteArray := tagD (gNd hs i g ⟨#[]⟩).body
def seedB : ByteArray := ⟨#[115, 101, 101, 100]⟩
def badTag : ByteArray := ⟨#[49, 50, 51, 52, 53, 54, 55, 56, 57, 48, 49, 50, 51, 52, 53, 54, 55, 56, 57, 48, 49, 50, 51, 52, 53, 54, 55, 56, 57, 48, 49, 50]⟩
def gTag (hs : List ByteArray) (i : Nat) (g : Gv) : ByteArray := if an g.sp 7 = 1 then badTag else tagOf (Mac.keyOf seedB (an g.au 3).toNat) (gHash hs i g)
def gOut (hs : List ByteArray) (i : Nat) (g : Gv) : ByteArray := (gNd hs i g (gTag hs i g)).bytesB
/-- Bytes and digests of the first nodes. -/
def mdTo (gs : List Gv) : Nat → List ByteArray × List ByteArray
  | 0 => ([], [])
  | i + 1 => match gs[i]? with
    | some g => ((mdTo gs i).1 ++ [gOut (mdTo gs i).2 i g], (mdTo gs i).2 ++ [gHash (mdTo gs i).2 i g])
    | none => mdTo gs i
def made (gs : List Gv) : List ByteArray := (mdTo gs (min gs.length 24)).1
theorem mdTo_some {gs : List Gv} {i : Nat} {g : Gv} (h : gs[i]? = some g) : mdTo gs (i + 1) = ((mdTo gs i).1 ++ [gOut (mdTo gs i).2 i g], (mdTo gs i).2 ++ [gHash (mdTo gs i).2 i g]) := by
  show (match gs[i]? with | some g => ((mdTo gs i).1 ++ [gOut (mdTo gs i).2 i g], (mdTo gs i).2 ++ [gHash (mdTo gs i).2 i g]) | none => mdTo gs i) = _
  rw [h]
theorem mdTo_length (gs : List Gv) : ∀ i, i ≤ gs.length → (mdTo gs i).1.length = i ∧ (mdTo gs i).2.length = i ∧ ∀ x ∈ (mdTo gs i).2, x.size = 32
  | 0, _ => ⟨rfl, rfl, fun x hx => by cases hx⟩
  | i + 1, hi => by
    obtain ⟨h1, h2, h3⟩ := mdTo_length gs i (by omega)
    rw [mdTo_some (List.getElem?_eq_getElem (by omega))]
    refine ⟨by rw [List.length_append, h1]; rfl, by rw [List.length_append, h2]; rfl, fun x hx => ?_⟩
    rcases List.mem_append.1 hx with hx | hx
    · exact h3 x hx
    · rw [List.mem_singleton.1 hx]; exact tagD_size _
end Go.Dag
/- A node and its child: the child ahead of its parent waits, and is taken with it; the digests reckoned by the kernel. -/
namespace Go.Dag
open Go.Nod Go.MapFun
def g0 : Gv := ⟨0, 0, [], 0, 0⟩
def g1 : Gv := ⟨0, 1, [0], 0, 0⟩
def hL0 : List UInt8 := [138, 69, 218, 21, 203, 20, 246, 16, 143, 226, 80, 190, 139, 123, 8, 92, 241, 141, 88, 160, 119, 69, 236, 52, 10, 255, 1, 168, 116, 64, 139, 140]
def hL1 : List UInt8 := [110, 43, 175, 93, 179, 130, 107, 142, 193, 111, 149, 221, 190, 133, 71, 63, 98, 231, 156, 220, 150, 11, 162, 136, 138, 199, 57, 96, 50, 201, 71, 154]
def h0 : ByteArray := ⟨hL0.toArray⟩
def h1 : ByteArray := ⟨hL1.toArray⟩
set_option maxRecDepth 100000 in
theorem h0_is : (gHash [] 0 g0).data.toList = hL0 := by decide +kernel
set_option maxRecDepth 100000 in
theorem h1_is : (gHash [h0] 1 g1).data.toList = hL1 := by decide +kernel
theorem of_list {a : ByteArray} {l : List UInt8} (h : a.data.toList = l) : a = ⟨l.toArray⟩ := by
  obtain ⟨⟨x⟩⟩ := a
  dsimp only at h
  rw [h]
theorem h0_eq : gHash [] 0 g0 = h0 := of_list h0_is
theorem h1_eq : gHash [h0] 1 g1 = h1 := of_list h1_is
theorem h01 : h1 ≠ h0 := fun e => by
  have : h1.data.toList = h0.data.toList := by rw [e]
  exact absurd (show hL1 = hL0 from this) (by decide)
def n0 : Nd := gNd [] 0 g0 (gTag [] 0 g0)
def n1 : Nd := gNd [h0] 1 g1 (gTag [h0] 1 g1)
theorem made01 : made [g0, g1] = [n0.bytesB, n1.bytesB] := by
  show (mdTo [g0, g1] 2).1 = _
  have e1 : mdTo [g0, g1] 1 = ([gOut [] 0 g0], [h0]) := by
    rw [mdTo_some (gs := [g0, g1]) (i := 0) (g := g0) rfl]
    show ([gOut [] 0 g0], [gHash [] 0 g0]) = _
    rw [h0_eq]
  rw [mdTo_some (gs := [g0, g1]) (i := 1) (g := g1) rfl, e1]
  rfl
theorem gTag_size (hs : List ByteArray) (i : Nat) (g : Gv) : (gTag hs i g).size = 32 := by
  unfold gTag
  split
  · rfl
  · exact tagOf_size _ _
theorem ps1 : n1.ps = [h0] := by
  show pars [h0] 1 [0] = [h0]
  have e : an 0 3 = 0 := by decide
  show (match ([0] : List Int)[0]? with | some b => if 0 ≤ ((1 : Nat) : Int) - 1 - an b 3 then ins [] ([h0].getD (((1 : Nat) : Int) - 1 - an b 3).toNat ⟨#[]⟩) else [] | none => []) = [h0]
  simp only [List.getElem?_cons_zero, e]
  rfl
theorem au00 : n0.au = 0 ∧ n1.au = 0 := ⟨by show an 0 3 = 0; decide, by show an 0 3 = 0; decide⟩
theorem good0 : n0.Good := ⟨rfl, gTag_size [] 0 g0, (gOp_ok g0).1, (gOp_ok g0).2, rfl⟩
theorem good1 : n1.Good := ⟨by rw [ps1]; decide +kernel, gTag_size [h0] 1 g1, (gOp_ok g1).1, (gOp_ok g1).2, rfl⟩
theorem tm01 : n0.op.tm.c = 1 ∧ n1.op.tm.c = 2 := ⟨by show an 0 63 + 1 = 1; decide, by show an 1 63 + 1 = 2; decide⟩
theorem hash0 : tagD n0.body = h0 := h0_eq
theorem hash1 : tagD n1.body = h1 := h1_eq
theorem right_of {n : Nd} {hs : List ByteArray} {i : Nat} {g : Gv} {k : Nat} (hn : n = gNd hs i g (gTag hs i g)) (ha : an g.au 3 = 0) (hsp : an g.sp 7 ≠ 1) (hk : 0 < k) : n.right (Mac.keysOf seedB k) = true := by
  have e : (Mac.keysOf seedB k)[n.au.toNat]? = some (Mac.keyOf seedB 0) := by
    rw [hn]
    show (Mac.keysOf seedB k)[(an g.au 3).toNat]? = _
    rw [ha]
    exact Mac.keysOf_at _ _ _ hk
  rw [Nd.right_some e]
  refine decide_eq_true ?_
  rw [hn]
  show (gTag hs i g).data.toList = _
  unfold gTag
  rw [if_neg hsp, ha]
  show (Sha.tag _ _).toArray.toList = _
  rw [List.toList_toArray]
  rfl
theorem right0 {k : Nat} (hk : 0 < k) : n0.right (Mac.keysOf seedB k) = true := right_of rfl (by decide) (by decide) hk
theorem right1 {k : Nat} (hk : 0 < k) : n1.right (Mac.keysOf seedB k) = true := right_of rfl (by decide) (by decide) hk
theorem add_of {d : Dg} {n : Nd} {ks : List ByteArray} (hg : n.Good) (hr : n.right ks = true) : d.add ks n.bytesB = d.come (tagD n.body) n := by
  obtain ⟨h1, h2, _⟩ := dec_bytes hg
  unfold Dg.add
  rw [if_neg (fun h => h h1), h2, if_neg (by rw [hr]; decide)]
theorem add1 {k : Nat} (hk : 0 < k) : (Dg.mk [] []).add (Mac.keysOf seedB k) n1.bytesB = (⟨[], [(h1, n1)]⟩, [], 123) := by
  rw [add_of good1 (right1 hk), hash1]
  have hu : unfit [] n1 = 123 := by
    unfold unfit
    rw [ps1]
    rfl
  have hr : (Dg.mk [] []).refuses h1 n1 = 123 := by
    unfold Dg.refuses
    rw [hu]
    rfl
  unfold Dg.come
  rw [if_pos hr]
  rfl
theorem lk_h0 : lk [(h1, n1)] h0 = none := by
  show (if h0 = h1 then some n1 else none) = none
  rw [if_neg (fun e => h01 e.symm)]
theorem unfit1 : unfit [(h0, n0)] n1 = 0 := by
  have e : lk [(h0, n0)] h0 = some n0 := if_pos rfl
  have hl : ([h0] : List ByteArray).any (lateAt [(h0, n0)] n1.op.tm.c) = false := by
    show (lateAt [(h0, n0)] n1.op.tm.c h0 || false) = false
    unfold lateAt
    rw [e]
    show (decide (n1.op.tm.c ≤ n0.op.tm.c) || false) = false
    rw [tm01.1, tm01.2]
    decide
  have ha : away [(h0, n0)] [h0] = [] := by
    unfold away
    rw [List.filter_cons_of_neg (by rw [e]; simp)]
    rfl
  unfold unfit
  rw [ps1, if_neg (by rw [hl]; decide), if_pos ha]
theorem settle01 : (Dg.mk [(h0, n0)] [(h1, n1)]).settle = (⟨[(h0, n0), (h1, n1)], []⟩, [h1]) := by
  have hr : rnd [(h0, n0)] [(h1, n1)] = ([(h0, n0), (h1, n1)], [], [h1]) := by
    show step ([(h0, n0)], [], []) (h1, n1) = _
    unfold step
    dsimp only
    rw [unfit1, if_neg (by decide), if_pos rfl]
    rfl
  have hg : (Dg.mk [(h0, n0)] [(h1, n1)]).got = [h1] := by unfold Dg.got; rw [hr]
  have hd : (Dg.mk [(h0, n0)] [(h1, n1)]).round = ⟨[(h0, n0), (h1, n1)], []⟩ := by unfold Dg.round; rw [hr]
  rw [Dg.settle_more (by rw [hg]; simp), hd, hg, Dg.settle_end rfl]
  rfl
theorem add0 {k : Nat} (hk : 0 < k) : (Dg.mk [] [(h1, n1)]).add (Mac.keysOf seedB k) n0.bytesB = (⟨[(h0, n0), (h1, n1)], []⟩, [h0, h1], 0) := by
  rw [add_of good0 (right0 hk), hash0]
  have hu : unfit [] n0 = 0 := rfl
  have hr : (Dg.mk [] [(h1, n1)]).refuses h0 n0 = 0 := by
    unfold Dg.refuses
    rw [hu, if_neg (by
      show ¬ ((lk [] h0).isSome = true ∨ (lk [(h1, n1)] h0).isSome = true)
      rw [lk_h0]
      simp [lk]), if_neg (by decide)]
  unfold Dg.come
  rw [if_neg (by rw [hr]; decide), if_pos hr]
  show ((Dg.mk [(h0, n0)] [(h1, n1)]).settle.1, h0 :: (Dg.mk [(h0, n0)] [(h1, n1)]).settle.2, (0 : Int)) = _
  rw [settle01]
theorem hds01 : (hds [(h0, n0), (h1, n1)]).length = 1 := by
  show (hstep (hstep [] (h0, n0)) (h1, n1)).length = 1
  unfold hstep
  dsimp only
  rw [ps1]
  show (cut [(h0, n0.op.tm.c)] h0 ++ [(h1, n1.op.tm.c)]).length = 1
  unfold cut
  rw [List.filter_cons_of_neg (by simp)]
  rfl
end Go.Dag
