/- Contract: all that wait and can be taken are taken. -/
import Derived.Test.YtkbboddibgfjbaaGreatDoorDagRound
namespace Go.Dag
open Go.RowKit Go.Nod Go.MapFun
theorem step_mem {T S R : Ns} {O : List ByteArray} {x y : ByteArray × Nd} (h : y ∈ (step (T, S, O) x).1 ++ ((step (T, S, O) x).2.1 ++ R)) : y ∈ T ++ (S ++ x :: R) := by
  unfold step at h
  simp only [List.mem_append, List.mem_cons]
  split at h
  · simp only [List.mem_append, List.mem_singleton] at h
    rcases h with h | (h | h) | h <;> simp [h]
  · split at h
    · simp only [List.mem_append, List.mem_singleton] at h
      rcases h with (h | h) | h | h <;> simp [h]
    · simp only [List.mem_append] at h
      rcases h with h | h | h <;> simp [h]
theorem rnd_mem {T W : Ns} {y : ByteArray × Nd} : ∀ i, i ≤ W.length → y ∈ (rnd T (W.take i)).1 ++ ((rnd T (W.take i)).2.1 ++ W.drop i) → y ∈ T ++ W
  | 0, _, h => by simpa [rnd] using h
  | i + 1, hi, h => by
    have hx : W[i]? = some W[i] := List.getElem?_eq_getElem (by omega)
    rw [rnd_take T W hx] at h
    refine rnd_mem i (by omega) ?_
    rw [List.drop_eq_getElem_cons (by omega)]
    exact step_mem h
theorem Dg.round_mem {d : Dg} {y : ByteArray × Nd} (h : y ∈ d.round.taken ++ d.round.waits) : y ∈ d.taken ++ d.waits := by
  refine rnd_mem d.waits.length (Nat.le_refl _) ?_
  rw [List.take_length, List.drop_length, List.append_nil]
  exact h
theorem settle_len : ∀ (k : Nat) (d : Dg), (settleF k d).2.length ≤ d.waits.length
  | 0, _ => Nat.zero_le _
  | k + 1, d => by
    have h0 := rnd_less d.taken d.waits d.waits.length (Nat.le_refl _)
    rw [List.take_length] at h0
    have h1 : d.got.length + d.round.waits.length ≤ d.waits.length := h0
    unfold settleF
    split
    · exact Nat.zero_le _
    · have := settle_len k d.round
      rw [List.length_append]
      omega
/-- How many entries a map's block has. -/
def mapSize (w : World) (b : Nat) : Nat := match w.heap[b]? with
  | some (.map es _) => es.size
  | _ => 0
theorem mapSize_eq {α : Type} {E : Enc α} {P : Program} {w : World} {b : Nat} {l : List (ByteArray × α)} (h : MapL P E w b l) : mapSize w b = l.length := by
  obtain ⟨_, _, D, ⟨es, cl, hb, _, _, hD⟩, h4, _⟩ := h
  unfold mapSize
  rw [hb, ← h4, hD]
  simp [Maps.size, length_sorted]
variable {P : Program} {S base : Nat} {F0 F : Fp} {ks : List ByteArray} {sl : ByteArray → Sl} {r : Rw} {tv sv : Value} {O L : List ByteArray} {w0 w w' : World}
theorem Rn.addTs {v' : Value} {xs : List ByteArray} (h : Rn P S base F0 F ks sl r tv O sv L w0 w) (hb : base ≤ w0.heap.size) (hg : w.grownBy w' tv.ownBlock) (ho : w'.ownsRow w0.heap.size 9 1 v' (O.length + xs.length) (O.map Value.string ++ xs.map Value.string)) (hw : v'.ownBlock = tv.ownBlock ∨ v'.ownBlock = some w.heap.size) : Rn P S base F0 F ks sl r v' (O ++ xs) sv L w0 w' := by
  have hs : ∀ x, tv.ownBlock = some x → ¬ F.has x ∧ w0.heap.size ≤ x := fun x hx => ⟨h.o1 x hx, (h.tak.lt x hx).1⟩
  refine ⟨grown_tn hg h.d hs h.par0 h.tn.size hb, by rw [List.length_append, List.map_append]; exact ho, own_low h.stl fun j hj => hg.block j (h.stl.lt j hj).2 fun e => h.ap j e.symm hj, fun y hy e => ?_, fun y hy e => ?_, h.o2, h.par0, tn_grown hg (fun x hx => (hs x hx).2) h.tn, h.nw⟩
  · rcases hw with e1 | e1
    · rw [e1] at hy; exact h.ap y hy e
    · rw [e1] at hy; cases hy; exact Nat.lt_irrefl _ (h.stl.lt _ e).2
  · rcases hw with e1 | e1
    · rw [e1] at hy; exact h.o1 y hy e
    · rw [e1] at hy; cases hy; exact Nat.lt_irrefl _ (h.d.lt _ e)
/-- While it settles. -/
structure Se (P : Program) (S base : Nat) (F : Fp) (ks : List ByteArray) (sl : ByteArray → Sl) (d : Dg) (va : Value) (w0 w : World) (Fi : Fp) (di : Dg) (all : List ByteArray) : Prop where
  rn : Rn P S base F Fi ks sl di.raw va all (.slice none 0 0) [] w0 w
  ok : di.Ok
  b : Fi.b = F.b ∧ Fi.wm = F.wm
  eq : d.settle = (di.settle.1, all ++ di.settle.2)
  few : di.taken.length + di.waits.length ≤ d.taken.length + d.waits.length
  cnt : all.length + di.waits.length ≤ d.waits.length
  nil : all = [] → va = .slice none 0 0
end Go.Dag
namespace Go.Proofs.YtkbboddibgfjbaaGreatDoor
open Go.RowKit Go.Sort Go.Nod Go.MapFun Go.Dag Go.AppendAt
attribute [local go_sem] Oper.semAt_some
set_option maxRecDepth 100000 in
set_option maxHeartbeats 4000000 in
theorem settle_any {base : Nat} {F : Fp} {ks : List ByteArray} {sl : ByteArray → Sl} {d : Dg} (w : World) (hD : DagAt Tryz.prog 75 base F ks sl d w) (hK : d.taken.length + d.waits.length ≤ 100000) :
    Calls Tryz.prog 58 #[.pointer (some ⟨F.b, 0, none⟩)] w fun e w' => ∃ v F2, e = .returned v ∧ w'.ownsRow w.heap.size 9 1 v d.settle.2.length (d.settle.2.map Value.string) ∧ (F2.b = F.b ∧ F2.wm = F.wm) ∧ DagAt Tryz.prog 75 base F2 ks sl d.settle.1 w' ∧ Tn F w w' ∧ F.to F2 w ∧ (d.settle.2 = [] → v = .slice none 0 0) := by
  obtain ⟨i9, hi9, hz0, hz1, hz2⟩ := info_parts dgInfo9
  have hbase : base ≤ w.heap.size := hD.r.size
  have I0 : Hid (Se Tryz.prog 75 base F ks sl d (.slice none 0 0) w w F d []) := ⟨Rn.start hD.r, hD.ok, ⟨rfl, rfl⟩, rfl, Nat.le_refl _, by simp, fun _ => rfl⟩
  clear hD
  go_enter Tryz.func58, Tryz.ntmps58
  go_wp2_with fail
  go_loopw [3] (fun va wr => Hid (∃ Fi di all, Se Tryz.prog 75 base F ks sl d va w wr Fi di all)) (fun _ wr => mapSize wr F.wm)
  case atStart => exact ⟨F, d, [], I0.out⟩
  case round =>
    obtain ⟨Fi, di, all, hI⟩ := hrel
    have I := hide hI
    clear hI I0
    have HRd := hide (round_any wr ⟨I.out.rn.d, I.out.ok⟩ (Nat.le_trans I.out.few hK))
    rw [I.out.b.1] at HRd
    by_cases hgot : di.got = []
    · have hE := hide (Dg.settle_end hgot)
      rw [hgot] at HRd
      go_wp2_with (go_at_call 88; refine HRd.out.mono ?_; rintro e w1 ⟨v, F2, rfl, h1, h2, h3, h4, h5, h6⟩; obtain ⟨ya, yc, rfl⟩ := own_slice h1; have H1 := hide (And.intro h1 (And.intro h2 (And.intro h3 (And.intro h4 (And.intro h5 h6))))); clear h1 h2 h3 h4 h5 h6)
      go_ret
      obtain ⟨h1, h2, h3, h4, h5, h6⟩ := H1.out
      have J := I.out.rn.turn ⟨h3.r, h4, h5⟩ (fun y hy => I.out.rn.par0 y (Dg.round_mem hy))
      have he := I.out.eq
      rw [hE.out, List.append_nil] at he
      rw [he]
      exact ⟨_, F2, rfl, J.tak, ⟨h2.1, h2.2.trans I.out.b.2⟩, h3, J.tn, J.nw, I.out.nil⟩
    · have hE := hide (Dg.settle_more hgot)
      have hpos : ¬ ((di.got.length : Nat) : Int) = 0 := by have := List.length_pos_iff.2 hgot; omega
      have hless := Dg.round_less hgot
      go_upto_region 5 with (go_at_call 88; refine HRd.out.mono ?_; rintro e w1 ⟨v, F2, rfl, h1, h2, h3, h4, h5, h6⟩; obtain ⟨ya, yc, hyv⟩ := own_slice h1; have H1 := hide (And.intro h1 (And.intro h2 (And.intro h3 (And.intro h4 (And.intro h5 h6))))); clear h1 h2 h3 h4 h5 h6; subst hyv)
      obtain ⟨g, rfl⟩ : ∃ g, ya = some ⟨g, 0, none⟩ := by
        rcases H1.out.1.2 with ⟨e, e2⟩ | ⟨g, cap, cur, e, _⟩
        · exact absurd (by rw [e2]; rfl) hpos
        · simp only [Value.slice.injEq] at e; exact ⟨g, e.1⟩
      have hlen0 := rnd_less di.taken di.waits di.waits.length (Nat.le_refl _)
      rw [List.take_length] at hlen0
      have hlen : di.got.length + di.round.waits.length ≤ di.waits.length := hlen0
      have hK2 := I.out.few
      have hA2 := I.out.cnt
      have J := hide (I.out.rn.turn ⟨H1.out.2.2.1.r, H1.out.2.2.2.1, H1.out.2.2.2.2.1⟩ (fun y hy => I.out.rn.par0 y (Dg.round_mem hy)))
      go_wp2_with (at_builtin; refine wpList_append_at rfl _ _ 24 rfl w.heap.size 9 i9 (.string ⟨#[]⟩) 16 Tryz.underlying24 hi9 hz0 hz1 hz2 rfl _ _ _ rfl J.out.tak ⟨g, 0, none⟩ di.got.length yc (di.got.map Value.string) rfl (List.length_map ..) (H1.out.1.cells rfl) ?a2 ?a3 ?a4 J.out.tn.size ?_)
      case a2 => intro u hu; obtain ⟨y, _, rfl⟩ := List.mem_map.1 hu; rfl
      case a3 => unfold maxLen; omega
      case a4 => omega
      intro v' w2 hown hgrow hwh
      have J2 := hide (J.out.addTs (xs := di.got) hbase hgrow hown hwh)
      have hsz : Hid (mapSize w2 F.wm = di.round.waits.length ∧ mapSize wr F.wm = di.waits.length) := by
        have e1 := mapSize_eq J2.out.d.waiting
        have e2 := mapSize_eq I.out.rn.d.waiting
        rw [H1.out.2.1.2, I.out.b.2, told_length] at e1
        rw [I.out.b.2, told_length] at e2
        exact ⟨e1, e2⟩
      obtain ⟨za, zc, hzv⟩ := own_slice hown
      clear hown hgrow hwh J
      subst hzv
      go_wp2_with fail
      go_roundw
      case rel =>
        refine ⟨F2, di.round, all ++ di.got, J2.out, H1.out.2.2.1.ok, ⟨H1.out.2.1.1, H1.out.2.1.2.trans I.out.b.2⟩, ?_, Nat.le_trans (Dg.round_length di) hK2, by rw [List.length_append]; omega, fun e => absurd (List.append_eq_nil_iff.1 e).2 hgot⟩
        rw [I.out.eq, hE.out, List.append_assoc]
      case measure => rw [hsz.out.1, hsz.out.2]; exact hless
end Go.Proofs.YtkbboddibgfjbaaGreatDoor
