/- Contract: how many nodes of an author wait: over a map, in whatever order. -/
import Derived.Test.YtkbboddibgfjbaaGreatDoorDagSettle
namespace Go.Dag
open Go.RowKit Go.Nod Go.MapFun
/-- How many of an author are among nodes in a map. -/
def ofAu (l : List (ByteArray × Nx)) (a : Int) : Nat := (l.filter fun x => decide (x.2.au = a)).length
theorem ofAu_told (sl : ByteArray → Sl) (l : Ns) (a : Int) : ofAu (told sl l) a = ofAuthor l a := by
  unfold ofAu ofAuthor told
  rw [List.filter_map, List.length_map]
  rfl
theorem ofAu_le (l : List (ByteArray × Nx)) (a : Int) : ofAu l a ≤ l.length := List.length_filter_le _ _
theorem ofAu_cut {l : List (ByteArray × Nx)} (hn : (l.map (·.1)).Nodup) {s : ByteArray} {x : Nx} (h : (s, x) ∈ l) (a : Int) : ofAu l a = ofAu (cut l s) a + if x.au = a then 1 else 0 := by
  induction l with
  | nil => cases h
  | cons y l ih =>
    simp only [List.map_cons, List.nodup_cons] at hn
    rcases List.mem_cons.1 h with e | h
    · subst e
      have e1 : cut ((s, x) :: l) s = l := by
        unfold cut
        rw [List.filter_cons_of_neg (by simp)]
        refine List.filter_eq_self.2 fun z hz => ?_
        have : z.1 ≠ s := fun e => hn.1 (List.mem_map.2 ⟨z, hz, e⟩)
        simpa using this
      rw [e1]
      unfold ofAu
      rw [List.filter_cons]
      by_cases ha : x.au = a <;> simp [ha]
    · have hne : y.1 ≠ s := fun e => hn.1 (e ▸ List.mem_map.2 ⟨_, h, rfl⟩)
      have e1 : cut (y :: l) s = y :: cut l s := by unfold cut; rw [List.filter_cons_of_pos (by simp [hne])]
      have := ih hn.2 h
      rw [e1]
      unfold ofAu at this ⊢
      simp only [List.filter_cons]
      by_cases ha : y.2.au = a <;> simp [ha] <;> omega
/-- While a map is gone over: the iterator's block r. -/
structure Ov {α : Type} (P : Program) (E : Enc α) (b r : Nat) (l todo : List (ByteArray × α)) (w0 w : World) : Prop where
  rng : RngL P E w b r l todo
  below : Below w0.heap.size w0 w
  hr : w0.heap.size ≤ r
theorem Ov.step {α : Type} {P : Program} {E : Enc α} {b r : Nat} {l todo : List (ByteArray × α)} {w0 w w' : World} (h : Ov P E b r l todo w0 w) (k : Below w.heap.size w w') : Ov P E b r l todo w0 w' ∧ w'.rangeLeft b r = w.rangeLeft b r :=
  ⟨⟨h.rng.below k, h.below.trans (k.mono h.below.size), h.hr⟩, rangeLeft_kept (k.block _ h.rng.lt.1) (k.block _ h.rng.lt.2)⟩
theorem Ov.next {α : Type} {P : Program} {E : Enc α} {b r : Nat} {l todo todo' : List (ByteArray × α)} {w0 w w' : World} (h : Ov P E b r l todo w0 w) (hg : w.grownBy w' (some r)) (hr : RngL P E w' b r l todo') : Ov P E b r l todo' w0 w' :=
  ⟨hr, h.below.grown hg h.below.size (fun k e => by cases e; exact h.hr), h.hr⟩
theorem nxv_form (x : Nx) : ∃ sa sn sc, ndE.v x = .agg ((Nd.mk x.au [] x.op x.tg).cs (.slice sa sn sc)) := ⟨_, _, _, rfl⟩
end Go.Dag
namespace Go.Proofs.YtkbboddibgfjbaaGreatDoor
open Go.RowKit Go.Sort Go.Nod Go.MapFun Go.Dag
attribute [local go_sem] Oper.semAt_some
set_option maxRecDepth 100000 in
set_option maxHeartbeats 2000000 in
theorem waitingOf_any {base : Nat} {F : Fp} {ks : List ByteArray} {sl : ByteArray → Sl} {r : Rw} (a : Int) (w : World) (hD : DagR Tryz.prog 75 base F ks sl r w) (hK : r.W.length ≤ 100000) :
    Calls Tryz.prog 85 #[.pointer (some ⟨F.b, 0, none⟩), .int .i64 a] w fun e w' => e = .returned (.int .i64 (ofAuthor r.W a)) ∧ Below w.heap.size w w' := by
  obtain ⟨c0, c1, c2, c3, c4, c5⟩ := hD.cells
  obtain ⟨w1, hrange, hr1, hb1, hs1⟩ := hD.waiting.range Tryz.underlying9 dagMap1
  have HE := hide (ofAu_told sl r.W a)
  have HL := hide (told_length sl r.W)
  have G1 := hide (Ov.mk hr1 hb1 (Nat.le_refl _))
  clear c0 c1 c2 c3 c5 hr1 hb1 hs1 hD
  go_enter Tryz.func85, Tryz.ntmps85
  go_wp2_with fail
  go_loopw [5] (fun vm wr => ∃ m : Nat, vm = .int .i64 m ∧ Hid (∃ todo, Ov Tryz.prog ndE F.wm w.heap.size (told sl r.W) todo w wr ∧ m + ofAu todo a = ofAuthor r.W a)) (fun _ wr => wr.rangeLeft F.wm w.heap.size)
  case atStart => exact ⟨0, rfl, _, G1.out, by rw [Nat.zero_add]; exact HE.out⟩
  case round =>
    obtain ⟨m, rfl, todo, hG, hm⟩ := hrel
    have G := hide hG
    have hml : m ≤ 100000 := by
      have h1 := ofAu_le (told sl r.W) a
      rw [HE.out, HL.out] at h1
      omega
    have hwr : IntKind.i64.wrap ((m : Int) + 1) = m + 1 := Sha.wrap_i64 _ (by omega) (by omega)
    rcases hG.rng.next Tryz.underlying9 0 with ⟨rfl, hn⟩ | ⟨s, x, w2, hmem, hsz, hn, hr2, hgr2, hz2, hen, hless⟩
    · clear hG
      have hme : m = ofAuthor r.W a := hm
      go_wp2_with fail
      go_ret
      exact ⟨by rw [hme]; rfl, G.out.below⟩
    · obtain ⟨sa, sn, sc, hv⟩ := nxv_form x
      rw [hv] at hn hen
      have hcnt := ofAu_cut hG.rng.1 hmem a
      have G2 := hide (hG.next hgr2 hr2)
      have G3 := hide (fun cs : Array Value => And.intro (G2.out.step ((Below.refl _ w2).alloc (Nat.le_refl _) (.cells cs 60))) hless)
      clear hG hr2 hgr2 hz2 G hmem hsz hv hless G1
      have HM := hide (And.intro hm hcnt)
      clear hm hcnt
      by_cases ha : x.au = a
      · go_wp2_with fail
        go_roundw
        case rel => exact ⟨m + 1, by go_num, cut todo s, (G3.out _).1.1, by have h1 := HM.out.1; have h2 := HM.out.2; rw [if_pos ha] at h2; omega⟩
        case measure => rw [(G3.out _).1.2]; exact (G3.out #[]).2
      · go_wp2_with fail
        go_roundw
        case rel => exact ⟨m, rfl, cut todo s, (G3.out _).1.1, by have h1 := HM.out.1; have h2 := HM.out.2; rw [if_neg ha] at h2; omega⟩
        case measure => rw [(G3.out _).1.2]; exact (G3.out #[]).2
end Go.Proofs.YtkbboddibgfjbaaGreatDoor
