/- Several texts in one: ImageEqual, PlanMem, PlanMath. -/
import Derived.Test.YtngikahadkoliaaGreatDoorOfB
import Derived.Test.YtngikahadkoliaaGreatDoorRunAL
import Derived.Test.YtngikahadkoliaaGreatDoorRunAT
/- Contract: whether two images are the same, file by file. -/
namespace Go.Proofs.YtngikahadkoliaaGreatDoor
open Go.RowKit Go.Img Go.Shelf Go.Rws
attribute [local go_sem] Oper.semAt_some
set_option maxHeartbeats 4000000 in
set_option maxRecDepth 100000 in
theorem equal_any (l r : List Fi) (u v : Value) (w : World) (hl : RowsAt Fi.cs 5 w u l) (hr : RowsAt Fi.cs 5 w v r) (hn : l.length ≤ 100000) :
    Calls Tryz.prog 41 #[u, v, .func (.func 42) #[] #[]] w fun e w' => e = .returned (.bool (sameB l r)) ∧ Below w.heap.size w w' := by
  obtain ⟨ua, uc, rfl⟩ := hl.form
  obtain ⟨va, vc, rfl⟩ := hr.form
  by_cases hlen : l.length = r.length
  · obtain ⟨N, hN⟩ : ∃ N, N = l.length := ⟨_, rfl⟩
    rw [← hlen, ← hN]
    rw [← hlen, ← hN] at hr
    rw [← hN] at hl hn
    have HL := hide (And.intro hl hr)
    have HN := hide (And.intro hN (hN.trans hlen))
    obtain ⟨R, hR⟩ : ∃ R, R = sameB l r := ⟨_, rfl⟩
    have HR := hide hR
    rw [← hR]
    clear hl hr hlen hN hR
    go_enter Tryz.func41, Tryz.ntmps41
    go_wp2_with fail
    go_loopw [17] (fun v17 wr => ∃ i : Nat, v17 = .int .i64 i ∧ i ≤ N ∧ Hid ((∀ (j : Nat) (f g : Fi), j < i → l[j]? = some f → r[j]? = some g → alikeB f g = true) ∧ Below w.heap.size w wr)) (fun v17 _ => N - (intOf v17).toNat)
    case atStart => exact ⟨0, rfl, Nat.zero_le _, fun j f g h => absurd h (Nat.not_lt_zero _), Below.refl _ _⟩
    case round =>
      obtain ⟨i, rfl, hi, HI⟩ := hrel
      have h0 : (0 : Int) ≤ i := by omega
      by_cases hil : i < N
      · obtain ⟨f, hf⟩ : ∃ f, l[i]? = some f := ⟨_, List.getElem?_eq_getElem (by rw [← HN.out.1]; exact hil)⟩
        obtain ⟨g, hg⟩ : ∃ g, r[i]? = some g := ⟨_, List.getElem?_eq_getElem (by rw [← HN.out.2]; exact hil)⟩
        obtain ⟨g1, o1, e1, q1, cx, l1, r1⟩ := (HL.out.1.below HI.out.2).at (fun e => by rw [e] at hf; cases hf)
        obtain ⟨g2, o2, e2, q2, cy, l2, r2⟩ := (HL.out.2.below HI.out.2).at (fun e => by rw [e] at hg; cases hg)
        subst e1 e2
        have hc1 : (N : Int) ≤ uc := by rw [q1]; omega
        have hc2 : (N : Int) ≤ vc := by rw [q2]; omega
        have hiI : (i : Int) < N := by omega
        have HF := hide (And.intro (r1 i f hf) (And.intro l1 (And.intro (r2 i g hg) l2)))
        have HFG := hide (And.intro hf hg)
        have kA : Below wr.heap.size wr (wr.alloc (.cells f.cs.toArray 51)) := (Below.refl _ wr).alloc (Nat.le_refl _) _
        have hmid : Hid ((wr.alloc (.cells f.cs.toArray 51)).rangeAt g2 (o2 + i * 5) g.cs) := fun q u hu => (kA.cell (p := ⟨g2, o2 + i * 5 + q, none⟩) HF.out.2.2.2).trans (HF.out.2.2.1 q u hu)
        have HA := hide (fun v => alike_any f g v)
        obtain ⟨b, hb⟩ : ∃ b, b = alikeB f g := ⟨_, rfl⟩
        rw [← hb] at HA
        have HB := hide hb
        have hr1 : Hid (((wr.alloc (.cells f.cs.toArray 51)).alloc (.cells g.cs.toArray 51)).heap[wr.heap.size]? = some (.cells f.cs.toArray 51 (0, 0)) ∧ ((wr.alloc (.cells f.cs.toArray 51)).alloc (.cells g.cs.toArray 51)).heap[wr.heap.size + 1]? = some (.cells g.cs.toArray 51 (0, 0))) := ⟨(heap_alloc_old _ _ (by simp)).trans (heap_alloc_new wr _), new_at (by simp) _⟩
        have HK2 := hide (kA.alloc kA.size (.cells g.cs.toArray 51))
        clear hf hg hb r1 r2 l1 l2 q1 q2 cx cy kA
        have hm2 := hmid.out
        simp only [Fi.cs] at hm2
        have HM2 := hide hm2
        have HA2 := HA.out
        simp only [Fi.cs] at HA2
        replace HA := hide HA2
        have hr2 := hr1.out
        simp only [Fi.cs] at hr2
        have HK3 := HK2.out
        simp only [Fi.cs] at HK3
        replace HK2 := hide HK3
        clear HA2 hm2 hr2 HK3
        cases b with
        | true =>
          go_wp2_with (first
            | (refine wpList_load_mid rfl 51 _ rfl g1 (o1 + i * 5) rfl f.cs _ HF.out.1 Tryz.underlying51 rfl infoFi5 ?_; simp only [Fi.cs])
            | (refine wpList_load_mid rfl 51 _ rfl g2 (o2 + i * 5) rfl g.cs _ HM2.out Tryz.underlying51 rfl infoFi5 ?_; simp only [Fi.cs])
            | (go_at_call 42; refine (HA.out _).mono ?_; rintro e w5 ⟨rfl, k5⟩; have K5 := hide (HK2.out.trans (k5.mono HK2.out.size)); clear k5 HA))
          go_roundw
          case rel =>
            refine ⟨i + 1, by simp, by omega, fun j f' g' hj h1 h2 => ?_, HI.out.2.trans (K5.out.mono HI.out.2.size)⟩
            by_cases e : j = i
            · subst e
              rw [HFG.out.1] at h1
              rw [HFG.out.2] at h2
              cases h1
              cases h2
              exact HB.out.symm
            · exact HI.out.1 j f' g' (by omega) h1 h2
          case measure => simp [intOf]; omega
        | false =>
          have HRf : Hid (R = false) := by
            show _ = _
            rw [HR.out]
            exact sameB_no HFG.out.1 HFG.out.2 HB.out.symm
          go_wp2_with (first
            | (refine wpList_load_mid rfl 51 _ rfl g1 (o1 + i * 5) rfl f.cs _ HF.out.1 Tryz.underlying51 rfl infoFi5 ?_; simp only [Fi.cs])
            | (refine wpList_load_mid rfl 51 _ rfl g2 (o2 + i * 5) rfl g.cs _ HM2.out Tryz.underlying51 rfl infoFi5 ?_; simp only [Fi.cs])
            | (go_at_call 42; refine (HA.out _).mono ?_; rintro e w5 ⟨rfl, k5⟩; have K5 := hide (HK2.out.trans (k5.mono HK2.out.size)); clear k5 HA))
          go_ret
          exact ⟨by rw [HRf.out]; rfl, HI.out.2.trans (K5.out.mono HI.out.2.size)⟩
      · obtain rfl : i = N := by omega
        have hiI : ¬ (i : Int) < i := by omega
        have HRt : Hid (R = true) := by
          show _ = _
          rw [HR.out]
          refine sameB_yes (by rw [← HN.out.1, ← HN.out.2]) fun j f g h1 h2 => HI.out.1 j f g ?_ h1 h2
          rw [HN.out.1]
          exact (List.getElem?_eq_some_iff.1 h1).1
        go_wp2_with fail
        go_ret
        exact ⟨by rw [HRt.out]; rfl, HI.out.2⟩
  · have hne : ¬ (l.length : Int) = r.length := by omega
    have hneb : ((l.length : Int) == r.length) = false := by rw [beq_eq_false_iff_ne]; exact hne
    have HR : Hid (sameB l r = false) := by show _ = _; unfold sameB; rw [decide_eq_false hlen, Bool.false_and]
    rw [HR.out]
    clear hl hr hlen
    go_enter Tryz.func41, Tryz.ntmps41
    go_wp2_with fail
    go_ret
    exact ⟨rfl, Below.refl _ _⟩
set_option maxRecDepth 100000 in
theorem same15_any (l r : List Fi) (u v : Value) (w : World) (hl : RowsAt Fi.cs 5 w u l) (hr : RowsAt Fi.cs 5 w v r) (hn : l.length ≤ 100000) :
    Calls Tryz.prog 16 #[u, v] w fun e w' => e = .returned (.bool (sameB l r)) ∧ Below w.heap.size w w' := by
  have H := hide (equal_any l r u v w hl hr hn)
  obtain ⟨R, hR⟩ : ∃ R, R = sameB l r := ⟨_, rfl⟩
  rw [← hR] at H ⊢
  clear hR hl hr hn
  go_enter Tryz.func16, Tryz.ntmps16
  go_wp2_with (go_at_call 41; refine H.out.mono ?_; rintro e w' ⟨rfl, k⟩; have K := hide k; clear k)
  go_ret
  exact ⟨rfl, K.out⟩
end Go.Proofs.YtngikahadkoliaaGreatDoor
/- Files by where they stand: a map of places. -/
namespace Go.Pln
open Go.RowKit Go.Img
open Go.MapFun (Enc)
/-- Where a file, or a folder, stands. -/
abbrev Plc := List UInt8 × Bool
def pk (f : Fi) : Plc := (f.path, f.dir)
def plV (p : Plc) : Value := .agg #[.string ⟨p.1.toArray⟩, .bool p.2]
theorem plV_inj (x y : Plc) (h : plV x = plV y) : x = y := by
  unfold plV at h
  simp only [Value.agg.injEq] at h
  have h1 := congrArg Array.toList h
  simp only [List.cons.injEq, Value.string.injEq, Value.bool.injEq, and_true] at h1
  exact Prod.ext (bs_inj h1.1) h1.2
def dFi (f : Fi) : DataW Unit := .agg [.lit (.string f.path), .lit (.bool f.dir), .lit (.int .u64 f.id), .lit (.string f.dg.data.toList), .lit (.int .i64 f.size)]
def rFi (v : Value) : Option (DataW Unit × List MemPlace) :=
  match v with
  | .agg ⟨[.string p, .bool d, .int .u64 i, .string g, .int .i64 z]⟩ => some (dFi ⟨p.data.toList, d, i, g, z⟩, [])
  | _ => none
def fiE : Enc Fi where
  R := rFi
  v f := .agg f.cs.toArray
  d := dFi
  reads f := by
    show some (dFi ⟨(⟨f.path.toArray⟩ : ByteArray).data.toList, f.dir, f.id, f.dg, f.size⟩, []) = _
    simp
  inv x y h := by
    unfold rFi at h
    split at h
    · rename_i p d i g z
      refine ⟨⟨p.data.toList, d, i, g, z⟩, ?_, (Option.some.inj h).symm⟩
      unfold Fi.cs
      simp
    · cases h
  inj a b h := by
    obtain ⟨p, d, i, g, z⟩ := a
    obtain ⟨p', d', i', g', z'⟩ := b
    simp only [dFi, DataW.agg.injEq, List.cons.injEq, DataW.lit.injEq, Lit.string.injEq, Lit.bool.injEq, Lit.int.injEq, true_and, and_true] at h
    obtain ⟨rfl, rfl, rfl, h4, rfl⟩ := h
    obtain rfl : g = g' := ByteArray.ext (Array.toList_inj.1 h4)
    rfl
  ne a h := by cases h
/-- What a list has at a place: the last one there. -/
def lkP (l : List Fi) (p : Plc) : Option Fi := l.reverse.find? fun f => pk f == p
theorem lkP_snoc (l : List Fi) (f : Fi) : lkP (l ++ [f]) = fun t => if t = pk f then some f else lkP l t := by
  funext t
  unfold lkP
  rw [List.reverse_append, List.reverse_singleton, List.singleton_append, List.find?_cons]
  by_cases e : t = pk f
  · rw [if_pos e, e]
    simp
  · have : (pk f == t) = false := by rw [beq_eq_false_iff_ne]; exact fun h => e h.symm
    rw [if_neg e, this]
end Go.Pln
namespace Go.Proofs.YtngikahadkoliaaGreatDoor
open Go.RowKit Go.Img Go.Pln Go.MapFun Go.Maps Go.Shelf Go.Rws
attribute [local go_sem] Oper.semAt_some
set_option maxRecDepth 100000 in
theorem plUnder : Tryz.prog.underlying 83 = some (.map 91 51) := by kernel_rfl
set_option maxRecDepth 100000 in
theorem plLaid : laidOutB Tryz.prog = true := by kernel_rfl
set_option maxRecDepth 100000 in
theorem plLt : 91 < Tryz.prog.types.size := of_decide_eq_true (by kernel_rfl)
set_option maxRecDepth 100000 in
theorem plWide : (match Tryz.prog.underlying 91 with | some (.array _ _) | some (.struct _) => true | _ => false) = true := by kernel_rfl
set_option maxRecDepth 100000 in
theorem plDeep : Tryz.prog.keyTypeAt 3 91 = true := by kernel_rfl
set_option maxRecDepth 100000 in
theorem plKeyed : Keyed Tryz.prog 91 := Keyed.of_law (deep_law_laid plLaid (m := 3) (by omega) plLt plDeep plWide)
set_option maxRecDepth 100000 in
theorem plCells : Tryz.prog.cellsOf 91 = 2 := by kernel_rfl
set_option maxRecDepth 100000 in
theorem plType : Tryz.prog.keyType 91 = true := by kernel_rfl
set_option maxRecDepth 100000 in
theorem plKey (p : Plc) (hp : p.1.length ≤ 1000) : ∃ l, keyOf Tryz.prog 91 (plV p) = some l := by
  obtain ⟨c, d⟩ := p
  dsimp only at hp
  have hf : (plV (c, d)).formed Tryz.prog 91 = true := by
    simp [plV, Value.formed, Tryz.underlying91, plCells]
  have hsz : Tryz.prog.types.size = 252 := by kernel_rfl
  have hc : (⟨c.toArray⟩ : ByteArray).size ≤ maxLen := by
    show c.toArray.size ≤ maxLen
    rw [List.size_toArray]
    unfold maxLen
    omega
  unfold keyOf
  rw [Tryz.underlying91]
  simp only [plType, hf, Bool.and_self, if_true, hsz]
  have h9 : Tryz.prog.underlying 9 = some .string := by kernel_rfl
  have h4 : Tryz.prog.underlying 4 = some .bool := by kernel_rfl
  have c9 : Tryz.prog.cellsOf 9 = 1 := by kernel_rfl
  have c4 : Tryz.prog.cellsOf 4 = 1 := by kernel_rfl
  have hcs : (plV (c, d)).cells.toList = [.string ⟨c.toArray⟩, .bool d] := rfl
  rw [hcs]
  have hk : ∀ m, Tryz.prog.keyLits (m + 2) 91 [.string ⟨c.toArray⟩, .bool d] = some [.string (⟨c.toArray⟩ : ByteArray).data.toList, .bool d] := by
    intro m
    simp [Program.keyLits, Tryz.underlying91, plCells, h9, h4, c9, c4, hc]
  have e : 252 + 1 = (252 - 1) + 2 := rfl
  rw [e, hk]
  exact ⟨_, rfl⟩
abbrev MapPl (N : Nat) (w : World) (b : Nat) (f : Plc → Option Fi) : Prop := MapG Tryz.prog 91 plV fiE N w b f
theorem plHint (n : Int) (w : World) : (Instr.makeMap 83 (some (.int .i64 n))).run Tryz.prog w = .ok (.map (some w.heap.size)) (w.alloc (.map #[] 0)) := by
  simp [Instr.makeMap, run_underlying Tryz.underlying83, asInt, asIntOf, Result.andThen]
set_option maxRecDepth 100000 in
theorem infoPl : (Tryz.prog.info? 91).map (·.size) = some 2 := by kernel_rfl
set_option maxHeartbeats 4000000 in
set_option maxRecDepth 100000 in
theorem placeOf_any (f : Fi) (w : World) : Calls Tryz.prog 30 #[.agg f.cs.toArray] w fun e w' => e = .returned (.agg #[.string ⟨f.path.toArray⟩, .bool f.dir]) ∧ Below w.heap.size w w' := by
  obtain ⟨p, d, i, g, z⟩ := f
  unfold Fi.cs
  dsimp only
  have HK := hide (((Below.refl _ w).alloc (Nat.le_refl _) (.cells #[.string ⟨p.toArray⟩, .bool d, .int .u64 i, .string g, .int .i64 z] 51)).alloc (by simp) (.cells #[.string ⟨p.toArray⟩, .bool d] 91))
  go_enter Tryz.func30, Tryz.ntmps30
  go_wp2_with fail
  refine bodyPost_ret (results_cell_row Tryz.results30 _ _ _ _ _ (0, 0) _ rfl (new_at (by simp) _) Tryz.underlying91 rfl infoPl) rfl ?_
  exact ⟨rfl, HK.out⟩
end Go.Proofs.YtngikahadkoliaaGreatDoor
/- The steps between two images, by the document's words; of no program. -/
namespace Go.Pln
open Go.RowKit Go.Img
/-- A step. -/
structure Pt where
  kind : Int
  path : List UInt8
  dg : ByteArray
def Pt.cs (s : Pt) : List Value := [.int .i64 s.kind, .string ⟨s.path.toArray⟩, .string s.dg]
theorem Pt.cs_length (s : Pt) : s.cs.length = 3 := rfl
theorem pt_one (s : Pt) : ∀ u ∈ s.cs, u.oneCell' = true := by
  intro u hu
  simp [Pt.cs] at hu
  rcases hu with rfl | rfl | rfl <;> rfl
theorem pts_one (es : List Pt) : ∀ u ∈ es.flatMap Pt.cs, u.oneCell' = true := fun u hu => by
  obtain ⟨s, _, h2⟩ := List.mem_flatMap.1 hu
  exact pt_one s u h2
def has (l : List Fi) (f : Fi) : Bool := (lkP l (pk f)).isSome
def gon (f : Fi) : Pt := ⟨if f.dir then 2 else 1, f.path, ⟨#[]⟩⟩
def mkd (f : Fi) : Pt := ⟨3, f.path, ⟨#[]⟩⟩
def put (f : Fi) : Pt := ⟨4, f.path, f.dg⟩
def newer (now : List Fi) (f : Fi) : Bool := match lkP now (pk f) with
  | none => true
  | some g => !(g.dg.toList == f.dg.toList)
def isB (now : List Fi) (f : Fi) : Bool := f.dir && !has now f
def isC (now : List Fi) (f : Fi) : Bool := !f.dir && newer now f
def betA (now want : List Fi) : List Pt := (now.reverse.filter fun f => !has want f).map gon
def betB (now want : List Fi) : List Pt := (want.filter (isB now)).map mkd
def betC (now want : List Fi) : List Pt := (want.filter (isC now)).map put
/-- The steps. -/
def betw (now want : List Fi) : List Pt := betA now want ++ betB now want ++ betC now want
theorem lkP_some {l : List Fi} {p : Plc} {f : Fi} (h : lkP l p = some f) : f ∈ l ∧ pk f = p := by
  unfold lkP at h
  have h1 := List.mem_of_find?_eq_some h
  have h2 := List.find?_some h
  exact ⟨List.mem_reverse.1 h1, by simpa using h2⟩
theorem lkP_none {l : List Fi} {p : Plc} (h : lkP l p = none) : ∀ f ∈ l, pk f ≠ p := by
  intro f hf e
  unfold lkP at h
  rw [List.find?_eq_none] at h
  have := h f (List.mem_reverse.2 hf)
  rw [e] at this
  simp at this
/-- In strict order: each path ahead of those behind it. -/
def Strict (l : List Fi) : Prop := l.Pairwise fun a b => cmpF a b < 0
theorem strict_of {l : List Fi} (hs : Srt l) (hn : l.Nodup) (ho : ∀ x ∈ l, ∀ y ∈ l, x.path = y.path → x = y) : Strict l := by
  have h : l.Pairwise fun a b => ltF b a = false ∧ a ≠ b := List.pairwise_and_iff.2 ⟨hs, hn⟩
  refine h.imp_of_mem ?_
  intro a b ha hb ⟨h1, h2⟩
  unfold ltF cmpF at h1
  unfold cmpF
  have h3 : ¬ cmpP b.path a.path < 0 := by simpa using h1
  rw [cmpP_swap] at h3
  rcases cmpP_one a.path b.path with e | e | e
  · omega
  · exact absurd (ho a ha b hb (cmpP_eq e)) h2
  · omega
/-- What may stand behind a step. -/
def Foll (s t : Pt) : Prop := max s.kind 2 < max t.kind 2 ∨ (max s.kind 2 = max t.kind 2 ∧ (max t.kind 2 = 2 → 0 < cmpP s.path t.path) ∧ (2 < max t.kind 2 → cmpP s.path t.path < 0))
theorem betA_kind {now want : List Fi} {s : Pt} (h : s ∈ betA now want) : 1 ≤ s.kind ∧ s.kind ≤ 2 := by
  obtain ⟨f, _, rfl⟩ := List.mem_map.1 h
  show (1 : Int) ≤ (if f.dir then 2 else 1) ∧ (if f.dir then (2 : Int) else 1) ≤ 2
  split <;> omega
theorem betB_kind {now want : List Fi} {s : Pt} (h : s ∈ betB now want) : s.kind = 3 := by
  obtain ⟨f, _, rfl⟩ := List.mem_map.1 h; rfl
theorem betC_kind {now want : List Fi} {s : Pt} (h : s ∈ betC now want) : s.kind = 4 := by
  obtain ⟨f, _, rfl⟩ := List.mem_map.1 h; rfl
theorem betw_kind {now want : List Fi} {s : Pt} (h : s ∈ betw now want) : 1 ≤ s.kind ∧ s.kind ≤ 4 := by
  unfold betw at h
  rcases List.mem_append.1 h with h | h
  · rcases List.mem_append.1 h with h | h
    · have := betA_kind h; omega
    · have := betB_kind h; omega
  · have := betC_kind h; omega
theorem betw_foll {now want : List Fi} (hn : Strict now) (hw : Strict want) : (betw now want).Pairwise Foll := by
  unfold betw
  rw [List.append_assoc]
  refine List.pairwise_append.2 ⟨?_, List.pairwise_append.2 ⟨?_, ?_, ?_⟩, ?_⟩
  · unfold betA
    rw [List.pairwise_map]
    have h1 : now.reverse.Pairwise fun a b => cmpF b a < 0 := List.pairwise_reverse.2 hn
    refine (h1.filter _).imp ?_
    intro a b h
    have hk : ∀ f : Fi, max (gon f).kind 2 = 2 := fun f => by
      show max (if f.dir then (2 : Int) else 1) 2 = 2
      split <;> omega
    refine .inr ⟨by rw [hk, hk], fun _ => ?_, fun h2 => ?_⟩
    · show 0 < cmpP a.path b.path
      unfold cmpF at h
      rw [cmpP_swap]
      omega
    · rw [hk] at h2; omega
  · unfold betB
    rw [List.pairwise_map]
    refine (hw.filter _).imp ?_
    intro a b h
    exact .inr ⟨rfl, fun h2 => absurd h2 (by show ¬ max (3 : Int) 2 = 2; decide), fun _ => h⟩
  · unfold betC
    rw [List.pairwise_map]
    refine (hw.filter _).imp ?_
    intro a b h
    exact .inr ⟨rfl, fun h2 => absurd h2 (by show ¬ max (4 : Int) 2 = 2; decide), fun _ => h⟩
  · intro s hs t ht
    left
    rw [betB_kind hs, betC_kind ht]
    decide
  · intro s hs t ht
    left
    have h1 := betA_kind hs
    rcases List.mem_append.1 ht with ht | ht
    · rw [betB_kind ht]; omega
    · rw [betC_kind ht]; omega
/-- A file without its number and its size. -/
def core (f : Fi) : Fi := ⟨f.path, f.dir, 0, f.dg, 0⟩
theorem dg_eq {a b : ByteArray} (h : (a.toList == b.toList) = true) : a = b := by
  rw [ByteArray.toList_eq, ByteArray.toList_eq] at h
  exact ByteArray.ext (Array.toList_inj.1 (eq_of_beq h))
/-- A list of which each path is there once, in order; its folders have no digest. -/
structure Img1 (l : List Fi) : Prop where
  strict : Strict l
  srt : Srt l
  nodup : l.Nodup
  once : ∀ x ∈ l, ∀ y ∈ l, x.path = y.path → x = y
  dirs : ∀ f ∈ l, f.dir = true → f.dg = ⟨#[]⟩
theorem Img1.core_srt {l : List Fi} (h : Img1 l) : Srt (l.map core) := by
  unfold Srt
  rw [List.pairwise_map]
  exact h.srt
theorem Img1.core_nodup {l : List Fi} (h : Img1 l) : (l.map core).Nodup := by
  rw [List.nodup_iff_pairwise_ne, List.pairwise_map]
  refine (List.nodup_iff_pairwise_ne.1 h.nodup).imp_of_mem ?_
  intro a b ha hb hab e
  exact hab (h.once a ha b hb (congrArg Fi.path e : (core a).path = (core b).path))
theorem Img1.look {l : List Fi} (h : Img1 l) {f : Fi} (hf : f ∈ l) : lkP l (pk f) = some f := by
  cases e : lkP l (pk f) with
  | none => exact absurd rfl (lkP_none e f hf)
  | some g =>
    obtain ⟨h1, h2⟩ := lkP_some e
    rw [h.once g h1 f hf (congrArg Prod.fst h2)]
theorem betw_nil {now want : List Fi} (hn : Img1 now) (hw : Img1 want) : betw now want = [] ↔ now.map core = want.map core := by
  constructor
  · intro h
    unfold betw at h
    obtain ⟨h1, hC⟩ := List.append_eq_nil_iff.1 h
    obtain ⟨hA, hB⟩ := List.append_eq_nil_iff.1 h1
    unfold betA at hA
    unfold betB at hB
    unfold betC at hC
    rw [List.map_eq_nil_iff, List.filter_eq_nil_iff] at hA hB hC
    have eC : ∀ g ∈ want, g.dir = false → ∃ f ∈ now, pk f = pk g ∧ f.dg = g.dg := fun g hg hd => by
      have h3 := hC g hg
      unfold isC newer at h3
      rw [hd] at h3
      cases e : lkP now (pk g) with
      | none => rw [e] at h3; simp at h3
      | some f =>
        rw [e] at h3
        obtain ⟨h4, h5⟩ := lkP_some e
        exact ⟨f, h4, h5, dg_eq (by simpa using h3)⟩
    have eB : ∀ g ∈ want, g.dir = true → ∃ f ∈ now, pk f = pk g := fun g hg hd => by
      have h3 := hB g hg
      unfold isB has at h3
      rw [hd] at h3
      cases e : lkP now (pk g) with
      | none => rw [e] at h3; simp at h3
      | some f => exact ⟨f, lkP_some e⟩
    have eA : ∀ f ∈ now, ∃ g ∈ want, pk g = pk f := fun f hf => by
      have h3 := hA f (List.mem_reverse.2 hf)
      unfold has at h3
      cases e : lkP want (pk f) with
      | none => rw [e] at h3; simp at h3
      | some g => exact ⟨g, lkP_some e⟩
    have hp : ∀ {a b : Fi}, pk a = pk b → a.path = b.path ∧ a.dir = b.dir := fun h => ⟨congrArg Prod.fst h, congrArg Prod.snd h⟩
    have hcore : ∀ {a b : Fi}, pk a = pk b → a.dg = b.dg → core a = core b := fun h1 h2 => by
      unfold core
      rw [(hp h1).1, (hp h1).2, h2]
    have hto : ∀ g ∈ want, ∃ f ∈ now, core f = core g := fun g hg => by
      cases hd : g.dir with
      | true =>
        obtain ⟨f, hf, e⟩ := eB g hg hd
        exact ⟨f, hf, hcore e (by rw [hn.dirs f hf ((hp e).2.trans hd), hw.dirs g hg hd])⟩
      | false =>
        obtain ⟨f, hf, e, e2⟩ := eC g hg hd
        exact ⟨f, hf, hcore e e2⟩
    have hfrom : ∀ f ∈ now, ∃ g ∈ want, core g = core f := fun f hf => by
      obtain ⟨g, hg, e⟩ := eA f hf
      obtain ⟨f', hf', e2⟩ := hto g hg
      have e3 : f' = f := hn.once f' hf' f hf ((congrArg Fi.path e2).trans (hp e).1)
      exact ⟨g, hg, by rw [← e2, e3]⟩
    refine srt_one hn.core_srt hw.core_srt ((List.perm_ext_iff_of_nodup hn.core_nodup hw.core_nodup).2 fun c => ?_) ?_
    · constructor
      · intro hc
        obtain ⟨f, hf, rfl⟩ := List.mem_map.1 hc
        obtain ⟨g, hg, e⟩ := hfrom f hf
        exact List.mem_map.2 ⟨g, hg, e⟩
      · intro hc
        obtain ⟨g, hg, rfl⟩ := List.mem_map.1 hc
        obtain ⟨f, hf, e⟩ := hto g hg
        exact List.mem_map.2 ⟨f, hf, e⟩
    · intro x hx y hy e
      obtain ⟨a, ha, rfl⟩ := List.mem_map.1 hx
      obtain ⟨b, hb, rfl⟩ := List.mem_map.1 hy
      rw [hn.once a ha b hb e]
  · intro h
    have hto : ∀ f ∈ now, ∃ g ∈ want, core g = core f := fun f hf => by
      have : core f ∈ want.map core := by rw [← h]; exact List.mem_map.2 ⟨f, hf, rfl⟩
      exact List.mem_map.1 this
    have hfrom : ∀ g ∈ want, ∃ f ∈ now, core f = core g := fun g hg => by
      have : core g ∈ now.map core := by rw [h]; exact List.mem_map.2 ⟨g, hg, rfl⟩
      exact List.mem_map.1 this
    have hpk : ∀ {a b : Fi}, core a = core b → pk a = pk b := fun {a b} e => Prod.ext (congrArg Fi.path e : (core a).path = (core b).path) (congrArg Fi.dir e : (core a).dir = (core b).dir)
    unfold betw betA betB betC
    rw [List.append_eq_nil_iff, List.append_eq_nil_iff, List.map_eq_nil_iff, List.map_eq_nil_iff, List.map_eq_nil_iff, List.filter_eq_nil_iff, List.filter_eq_nil_iff, List.filter_eq_nil_iff]
    refine ⟨⟨fun f hf => ?_, fun g hg => ?_⟩, fun g hg => ?_⟩
    · obtain ⟨g, hg, e⟩ := hto f (List.mem_reverse.1 hf)
      unfold has
      rw [← hpk e, hw.look hg]
      simp
    · obtain ⟨f, hf, e⟩ := hfrom g hg
      unfold isB has
      rw [← hpk e, hn.look hf]
      simp
    · obtain ⟨f, hf, e⟩ := hfrom g hg
      have e2 : (core f).dg = (core g).dg := congrArg Fi.dg e
      replace e2 : f.dg = g.dg := e2
      unfold isC newer
      rw [← hpk e, hn.look hf]
      simp [e2]
theorem same_core : ∀ {l r : List Fi}, sameB l r = true ↔ l.map core = r.map core
  | [], [] => by simp [sameB]
  | [], b :: r => by simp [sameB]
  | a :: l, [] => by simp [sameB]
  | a :: l, b :: r => by
    have ih := same_core (l := l) (r := r)
    unfold sameB at ih ⊢
    rw [List.map_cons, List.map_cons, List.cons.injEq, ← ih]
    simp only [List.length_cons, List.zip_cons_cons, List.all_cons, Bool.and_eq_true, decide_eq_true_eq, Nat.add_right_cancel_iff]
    have hab : alikeB a b = true ↔ core a = core b := by
      unfold alikeB core
      simp only [Bool.and_eq_true, beq_iff_eq, Fi.mk.injEq, true_and, and_true]
      constructor
      · rintro ⟨⟨h1, h2⟩, h3⟩
        exact ⟨h1, h2, dg_eq (by simpa using h3)⟩
      · rintro ⟨h1, h2, h3⟩
        exact ⟨⟨h1, h2⟩, by rw [h3]⟩
    rw [hab]
    constructor
    · rintro ⟨h1, h2, h3⟩; exact ⟨h2, h1, h3⟩
    · rintro ⟨h2, h1, h3⟩; exact ⟨h1, h2, h3⟩
/-- No steps, just where both are the same. -/
theorem nil_same {now want : List Fi} (hn : Img1 now) (hw : Img1 want) : decide ((betw now want).length = 0) = sameB now want := by
  rw [Bool.eq_iff_iff, decide_eq_true_iff, List.length_eq_zero_iff, betw_nil hn hw, same_core]
end Go.Pln
