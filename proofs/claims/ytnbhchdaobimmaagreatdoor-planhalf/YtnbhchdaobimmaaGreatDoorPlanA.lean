/- Several texts in one: ImageEqual, PlanMem, PlanMath. -/
import Derived.Test.YtnbhchdaobimmaaGreatDoorOfB
import Derived.Test.YtnbhchdaobimmaaGreatDoorRunAL
import Derived.Test.YtnbhchdaobimmaaGreatDoorRunAT
/- Contract: whether two images are the same, file by file. -/
namespace Go.Proofs.YtnbhchdaobimmaaGreatDoor
open Go.RowKit Go.Img Go.Shelf Go.Rws
attribute [local go_sem] Oper.semAt_some
end Go.Proofs.YtnbhchdaobimmaaGreatDoor
/- Files by where they stand: a map of places. -/
namespace Go.Pln
open Go.RowKit Go.Img
open Go.MapFun (Enc)
/-- Where a file, or a folder, stands. -/
abbrev Plc := List UInt8 × Bool
def pk (f : Fi) : Plc := (f.path, f.dir)
def plV (p : Plc) : Value := .agg #[.string ⟨p.1.toArray⟩, .bool p.2]
theorem plV_inj (x y : Plc) (h : plV x = plV y) : x = y := by
 unfold plV at h
 simp only [Value.agg.injEq] at h
 have h1 := congrArg Array.toList h
 simp only [List.cons.injEq, Value.string.injEq, Value.bool.injEq, and_true] at h1
 exact Prod.ext (bs_inj h1.1) h1.2
def dFi (f : Fi) : DataW Unit := .agg [.lit (.string f.path), .lit (.bool f.dir), .lit (.int .u64 f.id), .lit (.string f.dg.data.toList), .lit (.int .i64 f.size)]
def rFi (v : Value) : Option (DataW Unit × List MemPlace) :=
 match v with
 | .agg ⟨[.string p, .bool d, .int .u64 i, .string g, .int .i64 z]⟩ => some (dFi ⟨p.data.toList, d, i, g, z⟩, [])
 | _ => none
def fiE : Enc Fi where
 R := rFi
 v f := .agg f.cs.toArray
 d := dFi
 reads f := by
  show some (dFi ⟨(⟨f.path.toArray⟩ : ByteArray).data.toList, f.dir, f.id, f.dg, f.size⟩, []) = _
  simp
 inv x y h := by
  unfold rFi at h
  split at h
  ·rename_i p d i g z
   refine ⟨⟨p.data.toList, d, i, g, z⟩, ?_, (Option.some.inj h).symm⟩
   unfold Fi.cs
   simp
  ·cases h
 inj a b h := by
  obtain ⟨p, d, i, g, z⟩ := a
  obtain ⟨p', d', i', g', z'⟩ := b
  simp only [dFi, DataW.agg.injEq, List.cons.injEq, DataW.lit.injEq, Lit.string.injEq, Lit.bool.injEq, Lit.int.injEq, true_and, and_true] at h
  obtain ⟨rfl, rfl, rfl, h4, rfl⟩ := h
  obtain rfl : g = g' := ByteArray.ext (Array.toList_inj.1 h4)
  rfl
 ne a h := by cases h
/-- What a list has at a place: the last one there. -/
def lkP (l : List Fi) (p : Plc) : Option Fi := l.reverse.find? fun f => pk f == p
theorem lkP_snoc (l : List Fi) (f : Fi) : lkP (l ++ [f]) = fun t => if t = pk f then some f else lkP l t := by
 funext t
 unfold lkP
 rw [List.reverse_append, List.reverse_singleton, List.singleton_append, List.find?_cons]
 by_cases e : t = pk f
 ·rw [if_pos e, e]
  simp
 ·have : (pk f == t) = false := by rw [beq_eq_false_iff_ne]; exact fun h => e h.symm
  rw [if_neg e, this]
end Go.Pln
namespace Go.Proofs.YtnbhchdaobimmaaGreatDoor
open Go.RowKit Go.Img Go.Pln Go.MapFun Go.Maps Go.Shelf Go.Rws
attribute [local go_sem] Oper.semAt_some
set_option maxRecDepth 100000 in
theorem plUnder : Tryz.prog.underlying 83 = some (.map 91 51) := by kernel_rfl
set_option maxRecDepth 100000 in
theorem plLaid : laidOutB Tryz.prog = true := by kernel_rfl
set_option maxRecDepth 100000 in
theorem plLt : 91 < Tryz.prog.types.size := of_decide_eq_true (by kernel_rfl)
set_option maxRecDepth 100000 in
theorem plWide : (match Tryz.prog.underlying 91 with | some (.array _ _) | some (.struct _) => true | _ => false) = true := by kernel_rfl
set_option maxRecDepth 100000 in
theorem plDeep : Tryz.prog.keyTypeAt 3 91 = true := by kernel_rfl
set_option maxRecDepth 100000 in
theorem plKeyed : Keyed Tryz.prog 91 := Keyed.of_law (deep_law_laid plLaid (m := 3) (by omega) plLt plDeep plWide)
set_option maxRecDepth 100000 in
theorem plCells : Tryz.prog.cellsOf 91 = 2 := by kernel_rfl
set_option maxRecDepth 100000 in
theorem plType : Tryz.prog.keyType 91 = true := by kernel_rfl
set_option maxRecDepth 100000 in
theorem plKey (p : Plc) (hp : p.1.length ≤ 1000) : ∃ l, keyOf Tryz.prog 91 (plV p) = some l := by
 obtain ⟨c, d⟩ := p
 dsimp only at hp
 have hf : (plV (c, d)).formed Tryz.prog 91 = true := by
  simp [plV, Value.formed, Tryz.underlying91, plCells]
 have hsz : Tryz.prog.types.size = 252 := by kernel_rfl
 have hc : (⟨c.toArray⟩ : ByteArray).size ≤ maxLen := by
  show c.toArray.size ≤ maxLen
  rw [List.size_toArray]
  unfold maxLen
  omega
 unfold keyOf
 rw [Tryz.underlying91]
 simp only [plType, hf, Bool.and_self, if_true, hsz]
 have h9 : Tryz.prog.underlying 9 = some .string := by kernel_rfl
 have h4 : Tryz.prog.underlying 4 = some .bool := by kernel_rfl
 have c9 : Tryz.prog.cellsOf 9 = 1 := by kernel_rfl
 have c4 : Tryz.prog.cellsOf 4 = 1 := by kernel_rfl
 have hcs : (plV (c, d)).cells.toList = [.string ⟨c.toArray⟩, .bool d] := rfl
 rw [hcs]
 have hk : ∀ m, Tryz.prog.keyLits (m + 2) 91 [.string ⟨c.toArray⟩, .bool d] = some [.string (⟨c.toArray⟩ : ByteArray).data.toList, .bool d] := by
  intro m
  simp [Program.keyLits, Tryz.underlying91, plCells, h9, h4, c9, c4, hc]
 have e : 252 + 1 = (252 - 1) + 2 := rfl
 rw [e, hk]
 exact ⟨_, rfl⟩
abbrev MapPl (N : Nat) (w : World) (b : Nat) (f : Plc → Option Fi) : Prop := MapG Tryz.prog 91 plV fiE N w b f
theorem plHint (n : Int) (w : World) : (Instr.makeMap 83 (some (.int .i64 n))).run Tryz.prog w = .ok (.map (some w.heap.size)) (w.alloc (.map #[] 0)) := by
 simp [Instr.makeMap, run_underlying Tryz.underlying83, asInt, asIntOf, Result.andThen]
set_option maxRecDepth 100000 in
theorem infoPl : (Tryz.prog.info? 91).map (·.size) = some 2 := by kernel_rfl
set_option maxHeartbeats 4000000 in
set_option maxRecDepth 100000 in
theorem placeOf_any (f : Fi) (w : World) : Calls Tryz.prog 30 #[.agg f.cs.toArray] w fun e w' => e = .returned (.agg #[.string ⟨f.path.toArray⟩, .bool f.dir]) ∧ Below w.heap.size w w' := by
 obtain ⟨p, d, i, g, z⟩ := f
 unfold Fi.cs
 dsimp only
 have HK := hide (((Below.refl _ w).alloc (Nat.le_refl _) (.cells #[.string ⟨p.toArray⟩, .bool d, .int .u64 i, .string g, .int .i64 z] 51)).alloc (by simp) (.cells #[.string ⟨p.toArray⟩, .bool d] 91))
 go_enter Tryz.func30, Tryz.ntmps30
 go_wp2_with fail
 refine bodyPost_ret (results_cell_row Tryz.results30 _ _ _ _ _ (0, 0) _ rfl (new_at (by simp) _) Tryz.underlying91 rfl infoPl) rfl ?_
 exact ⟨rfl, HK.out⟩
end Go.Proofs.YtnbhchdaobimmaaGreatDoor
/- The steps between two images, by the document's words; of no program. -/
namespace Go.Pln
open Go.RowKit Go.Img
/-- A step. -/
structure Pt where
 kind : Int
 path : List UInt8
 dg : ByteArray
def Pt.cs (s : Pt) : List Value := [.int .i64 s.kind, .string ⟨s.path.toArray⟩, .string s.dg]
theorem Pt.cs_length (s : Pt) : s.cs.length = 3 := rfl
theorem pt_one (s : Pt) : ∀ u ∈ s.cs, u.oneCell' = true := by
 intro u hu
 simp [Pt.cs] at hu
 rcases hu with rfl | rfl | rfl <;> rfl
theorem pts_one (es : List Pt) : ∀ u ∈ es.flatMap Pt.cs, u.oneCell' = true := fun u hu => by
 obtain ⟨s, _, h2⟩ := List.mem_flatMap.1 hu
 exact pt_one s u h2
def has (l : List Fi) (f : Fi) : Bool := (lkP l (pk f)).isSome
def gon (f : Fi) : Pt := ⟨if f.dir then 2 else 1, f.path, ⟨#[]⟩⟩
def mkd (f : Fi) : Pt := ⟨3, f.path, ⟨#[]⟩⟩
def put (f : Fi) : Pt := ⟨4, f.path, f.dg⟩
def newer (now : List Fi) (f : Fi) : Bool := match lkP now (pk f) with
 | none => true
 | some g => !(g.dg.toList == f.dg.toList)
def isB (now : List Fi) (f : Fi) : Bool := f.dir && !has now f
def isC (now : List Fi) (f : Fi) : Bool := !f.dir && newer now f
def betA (now want : List Fi) : List Pt := (now.reverse.filter fun f => !has want f).map gon
def betB (now want : List Fi) : List Pt := (want.filter (isB now)).map mkd
def betC (now want : List Fi) : List Pt := (want.filter (isC now)).map put
/-- The steps. -/
def betw (now want : List Fi) : List Pt := betA now want ++ betB now want ++ betC now want
theorem lkP_some {l : List Fi} {p : Plc} {f : Fi} (h : lkP l p = some f) : f ∈ l ∧ pk f = p := by
 unfold lkP at h
 have h1 := List.mem_of_find?_eq_some h
 have h2 := List.find?_some h
 exact ⟨List.mem_reverse.1 h1, by simpa using h2⟩
theorem lkP_none {l : List Fi} {p : Plc} (h : lkP l p = none) : ∀ f ∈ l, pk f ≠ p := by
 intro f hf e
 unfold lkP at h
 rw [List.find?_eq_none] at h
 have := h f (List.mem_reverse.2 hf)
 rw [e] at this
 simp at this
/-- In strict order: each path ahead of those behind it. -/
def Strict (l : List Fi) : Prop := l.Pairwise fun a b => cmpF a b < 0
theorem strict_of {l : List Fi} (hs : Srt l) (hn : l.Nodup) (ho : ∀ x ∈ l, ∀ y ∈ l, x.path = y.path → x = y) : Strict l := by
 have h : l.Pairwise fun a b => ltF b a = false ∧ a ≠ b := List.pairwise_and_iff.2 ⟨hs, hn⟩
 refine h.imp_of_mem ?_
 intro a b ha hb ⟨h1, h2⟩
 unfold ltF cmpF at h1
 unfold cmpF
 have h3 : ¬ cmpP b.path a.path < 0 := by simpa using h1
 rw [cmpP_swap] at h3
 rcases cmpP_one a.path b.path with e | e | e
 ·omega
 ·exact absurd (ho a ha b hb (cmpP_eq e)) h2
 ·omega
/-- What may stand behind a step. -/
def Foll (s t : Pt) : Prop := max s.kind 2 < max t.kind 2 ∨ (max s.kind 2 = max t.kind 2 ∧ (max t.kind 2 = 2 → 0 < cmpP s.path t.path) ∧ (2 < max t.kind 2 → cmpP s.path t.path < 0))
/-- A file without its number and its size. -/
def core (f : Fi) : Fi := ⟨f.path, f.dir, 0, f.dg, 0⟩
/-- A list of which each path is there once, in order; its folders have no digest. -/
structure Img1 (l : List Fi) : Prop where
 strict : Strict l
 srt : Srt l
 nodup : l.Nodup
 once : ∀ x ∈ l, ∀ y ∈ l, x.path = y.path → x = y
 dirs : ∀ f ∈ l, f.dir = true → f.dg = ⟨#[]⟩
theorem Img1.look {l : List Fi} (h : Img1 l) {f : Fi} (hf : f ∈ l) : lkP l (pk f) = some f := by
 cases e : lkP l (pk f) with
 | none => exact absurd rfl (lkP_none e f hf)
 | some g =>
  obtain ⟨h1, h2⟩ := lkP_some e
  rw [h.once g h1 f hf (congrArg Prod.fst h2)]
end Go.Pln
