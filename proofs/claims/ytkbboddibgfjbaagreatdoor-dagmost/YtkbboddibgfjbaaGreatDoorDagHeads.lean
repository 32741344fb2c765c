/- Contracts: the heads, rising; those that wait are dropped. -/
import Derived.Test.YtkbboddibgfjbaaGreatDoorDagAddAll
namespace Go.MapFun
open Go.RowKit Go.Maps Go.Sort
variable {α : Type} {E : Enc α} {P : Program} {w : World} {b : Nat} {l : List (ByteArray × α)}
theorem MapL.owns (h : MapL P E w b l) : ∃ D, w.ownsMap P 9 E.R b l.length D ∧ Maps.size D = l.length ∧ Tells E D l := h.2.2
/-- A map's keys. -/
theorem keys_perm (hn : (l.map (·.1)).Nodup) (hl : ∀ x ∈ l, x.1.size ≤ maxLen) (h9 : P.underlying 9 = some .string) {D : DataW Unit} {n : Nat} (ho : w.ownsMap P 9 E.R b n D) (ht : Tells E D l) : (l.map fun x => x.1.data.toList).Perm (strKeys D) := by
  obtain ⟨es, rfl, hp, _⟩ := ho.entries (string_keyed h9)
  obtain ⟨es', e, hk⟩ := ho.keysOf
  cases e
  have hks : ∀ p ∈ es, ∃ x : ByteArray, p.1 = .string x.data.toList ∧ x.size ≤ maxLen := fun p hp' => by
    obtain ⟨v, hv⟩ := hk p hp'
    obtain ⟨s, _, e, hs⟩ := WideMaps.string_of_keyOf h9 hv
    exact ⟨s, e, hs⟩
  refine perm_strKeys hp (fun p hp' => by obtain ⟨x, e, _⟩ := hks p hp'; exact ⟨_, e⟩) ?_ fun x => ?_
  · exact List.pairwise_map.2 ((List.pairwise_map.1 hn).imp fun {a b} hne e => hne (ByteArray.ext (Array.toList_inj.1 e)))
  · constructor
    · intro hx
      obtain ⟨y, hy, rfl⟩ := List.mem_map.1 hx
      rw [Tells.has ht (hl y hy)]
      cases h : lk l y.1 with
      | some a => rfl
      | none => exact absurd rfl (lk_none.1 h y hy)
    · intro hx
      rw [has_eq, List.any_eq_true] at hx
      obtain ⟨p, hp', e⟩ := hx
      obtain ⟨s, e1, hs⟩ := hks p hp'
      have e2 := WideAt.sameKey_eq e
      rw [e1] at e2
      injection e2 with e2
      have h1 : Maps.has (.map es) (.string s.data.toList) = true := by
        rw [has_eq, List.any_eq_true]
        exact ⟨p, hp', by rw [e1]; exact WideAt.sameKey_self (by trivial)⟩
      rw [Tells.has ht hs] at h1
      obtain ⟨a, ha⟩ := Option.isSome_iff_exists.1 h1
      exact List.mem_map.2 ⟨(s, a), lk_mem ha, e2⟩
end Go.MapFun
namespace Go.Proofs.YtkbboddibgfjbaaGreatDoor
open Go.RowKit Go.Sort Go.Wire Go.Stamp Go.Opn Go.Nod Go.MapFun Go.Dag Go.Shelf
attribute [local go_sem] Oper.semAt_some
set_option maxRecDepth 100000 in
set_option maxHeartbeats 1000000 in
theorem heads_any {base : Nat} {F : Fp} {ks : List ByteArray} {sl : ByteArray → Sl} {r : Rw} (w : World) (hD : DagR Tryz.prog 75 base F ks sl r w) (hK : r.H.length ≤ 100000) :
    Calls Tryz.prog 24 #[.pointer (some ⟨F.b, 0, none⟩)] w fun e w' => ∃ v, e = .returned v ∧ w'.ownsRow w.heap.size 9 1 v r.H.length (((r.H.map fun x => x.1.data.toList).mergeSort leB).map encStr) ∧ Below w.heap.size w w' := by
  obtain ⟨c0, c1, c2, c3, c4, c5⟩ := hD.cells
  obtain ⟨D, ho, hsz, ht⟩ := hD.heads.owns
  have hp := keys_perm hD.heads.1 hD.heads.2.1 Tryz.underlying9 ho ht
  have HK := hide (callsIn_wide.1 (keys_in (some F.hm) w))
  have HS := hide (callsIn_wide.1 (sorted_in F.hm _ D u64E.R w ho (by rw [hsz]; unfold maxLen; omega) (by rw [hsz]; omega)))
  have HP := hide hp
  clear c0 c1 c2 c4 c5 hD ho ht hsz hp
  go_enter Tryz.func24, Tryz.ntmps24
  go_wp2_with (first
    | (go_at_call 46; refine HK.out.mono ?_; rintro e w1 ⟨rfl, hw1⟩; subst hw1)
    | (go_at_call 45; refine HS.out.mono ?_; rintro e w2 ⟨v, ss, rfl, hss, hrow, hnil, hb⟩; have H2 := hide (And.intro hss (And.intro hrow hb)); clear hss hrow hnil hb))
  go_ret
  have k1 := (Below.refl w.heap.size w).alloc (Nat.le_refl _) (.cells #[.map (some F.hm)] 73)
  refine ⟨v, rfl, ?_, k1.trans (H2.out.2.2.mono k1.size)⟩
  have hpp := H2.out.1.trans HP.out.symm
  have e1 := mergeSort_of_perm hpp
  have e2 : ss.length = r.H.length := by rw [hpp.length_eq]; simp
  have h3 := H2.out.2.1
  have e3 : ss.mergeSort (fun x y => decide (x ≤ y)) = (r.H.map fun x => x.1.data.toList).mergeSort leB := e1
  rw [e3, e2] at h3
  exact nd_own_mono h3 k1.size
set_option maxRecDepth 100000 in
theorem drop_any {base : Nat} {F : Fp} {ks : List ByteArray} {sl : ByteArray → Sl} {d : Dg} (w : World) (hD : DagAt Tryz.prog 75 base F ks sl d w) :
    Calls Tryz.prog 11 #[.pointer (some ⟨F.b, 0, none⟩)] w fun e w' => e = .returned (.int .i64 d.waits.length) ∧ DagAt Tryz.prog 75 base { F with cv := .slice none 0 0 } ks sl ⟨d.taken, []⟩ w' ∧ Tn F w w' ∧ F.to { F with cv := .slice none 0 0 } w := by
  obtain ⟨c0, c1, c2, c3, c4, c5⟩ := hD.r.cells
  have hl := hD.r.waiting.len dagMap1 3
  rw [told_length] at hl
  obtain ⟨w1, hcl, hm1, hg1⟩ := hD.r.waiting.clear dagMap1 0
  have h1 := hD.r.setW (W := []) hg1 hm1 (hD.r.par.sub fun x hx => by simp only [List.append_nil] at hx; exact List.mem_append_left _ hx)
  have hc1 : w1.cell? ⟨F.b, 5, none⟩ = some F.cv := h1.1.cells.2.2.2.2.2
  have hf1 : w1.frozen? ⟨F.b, 5, none⟩ = false := h1.1.frozen 5
  have h2 := h1.1.setC (C := []) (v := .slice none 0 0) (w' := w1) ⟨rfl, rfl, rfl, Nat.le_refl _, fun _ _ _ => rfl⟩ (World.ownsRow_nil _ _ _ _) (fun x hx => by cases hx)
  have HO : Hid (Dg.Ok ⟨d.taken, []⟩) := by
    show Go.Dag.Ok (d.taken ++ [])
    rw [List.append_nil]
    exact hD.ok.sub (List.sublist_append_left _ _)
  have H := hide (And.intro h1.2 h2)
  clear c0 c1 c2 c3 c5 hm1 hg1 h1 h2 hD
  have hl' : (Builtin.len_ #[72] 3 #[.map (some F.wm)]).run Tryz.prog w = .ok (.int .i64 d.waits.length) w := hl
  clear hl
  go_enter Tryz.func11, Tryz.ntmps11
  go_wp2
  go_ret
  exact ⟨rfl, ⟨H.out.2.1, HO.out⟩, H.out.1.trans H.out.2.2.1 (F.to_refl w), Fp.to_trans (F.to_refl w) H.out.2.2.2 H.out.1.size⟩
end Go.Proofs.YtkbboddibgfjbaaGreatDoor
