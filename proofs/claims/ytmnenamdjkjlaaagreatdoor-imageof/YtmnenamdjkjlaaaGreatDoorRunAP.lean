/- Several texts in one: NameAssign, NameAll, NameAsg, NameAwake. -/
import Derived.Test.YtmnenamdjkjlaaaGreatDoorRunAO
import Derived.Laws.AppendOwn
/- Contract: a name that may be, or the first one with a number that is nobody's yet. -/
namespace Go.Names
theorem nth_pos (own : Bs) {m : Nat} (h : 1 ≤ m) : nth own m = cand own m := by unfold nth; rw [if_neg (by omega)]
theorem used_below {T : List Bs} {own : Bs} {m : Nat} (h1 : 1 ≤ m) (h2 : m < pickN T own) : fold (cand own m) ∈ T := by
  have := (pickN_spec T own).2 m h2
  rwa [nth_pos own h1] at this
theorem pick_is {T : List Bs} {own : Bs} (h : 1 ≤ pickN T own) : pick T own = cand own (pickN T own) := nth_pos own h
theorem pick_out {T : List Bs} {own : Bs} (h : 1 ≤ pickN T own) : fold (cand own (pickN T own)) ∉ T := by
  have := (pickN_spec T own).1
  rwa [nth_pos own h] at this
theorem pickN_pos {T : List Bs} {own : Bs} (h : fold own ∈ T) : 1 ≤ pickN T own := by
  rcases Nat.eq_zero_or_pos (pickN T own) with h0 | h0
  · have := (pickN_spec T own).1
    rw [h0] at this
    exact absurd h this
  · exact h0
theorem ba_of (s : ByteArray) : (⟨s.data.toList.toArray⟩ : ByteArray) = s := rfl
end Go.Names
namespace Go.Proofs.YtmnenamdjkjlaaaGreatDoor
open Go.RowKit Go.Names Go.MapFun Go.Maps
set_option maxRecDepth 100000 in
theorem FoIs.mono {base N N' : Nat} {F : Fo} {T : List Bs} {w : World} (h : FoIs base N F T w) (hN : N ≤ N') : FoIs base N' F T w := by
  obtain ⟨nx, h1, h2⟩ := h
  exact ⟨nx, h1.mono hN, h2⟩
set_option maxRecDepth 100000 in
set_option maxHeartbeats 2000000 in
theorem assign_any {base N : Nat} {F : Fo} {T : List Bs} (own : ByteArray) (w : World) (h : FoIs base N F T w) (hown : own.size ≤ 32) (hT : T.length ≤ 900) (hN : N ≤ 5000000) :
    Calls Tryz.prog 78 #[.pointer (some ⟨F.fb, 0, none⟩), .string own] w fun e w' => e = .returned (.string ⟨(pick T own.data.toList).toArray⟩) ∧ FoEx base (N + 20000) F (T ++ [fold (pick T own.data.toList)]) w w' := by
  by_cases hin : fold own.data.toList ∈ T
  · have hp1 := pickN_pos hin
    have hp2 : pickN T own.data.toList ≤ 901 := Nat.le_trans (pickN_le T own.data.toList) (by omega)
    rw [pick_is hp1]
    have HP := hide (And.intro (pick_out hp1) (fun m (hm : 1 ≤ m ∧ m < pickN T own.data.toList) => used_below (T := T) (own := own.data.toList) hm.1 hm.2))
    generalize pickN T own.data.toList = p at HP hp1 hp2
    obtain ⟨nx, h1, hok⟩ := h
    have HT := hide (take_no own w h1 (by omega) hin)
    replace hok := hide hok
    clear h1 hin
    go_enter Tryz.func78, Tryz.ntmps78
    go_wp2_with (go_at_call 108; refine HT.out.mono ?_; rintro e w1 ⟨rfl, h1, t1⟩
                 have H1 := hide (show FoIs base N F T w1 ∧ FoTn F w w1 from ⟨⟨nx, h1, hok.out⟩, t1⟩)
                 clear h1 t1 HT)
    go_loopw [5, 6] (fun vf vd wr => ∃ d first : Nat, 1 ≤ d ∧ d ≤ 3 ∧ vf = .int .i64 first ∧ vd = .int .i64 d ∧ first ≤ p ∧ Hid (first = 10 ^ (d - 1) ∧ FoIs base (N + 3000 * d) F T wr ∧ FoTn F w wr)) (fun _ vd _ => 4 - (intOf vd).toNat)
    case atStart => exact ⟨1, 1, Nat.le_refl _, by omega, rfl, rfl, hp1, rfl, H1.out.1.mono (by omega), H1.out.2⟩
    case round =>
      clear H1 hok
      obtain ⟨d, first, hd1, hd3, rfl, rfl, hfp, HL⟩ := hrel
      have hf1000 : first ≤ 100 := by
        have := HL.out.1
        rcases (by omega : d = 1 ∨ d = 2 ∨ d = 3) with e | e | e <;> subst e <;> omega
      have hf1 : 1 ≤ first := by rw [HL.out.1]; exact Nat.one_le_pow _ _ (by decide)
      by_cases hlt : p < 10 * first
      · have HN := hide (numbered_any own d first p true wr HL.out.2.1 hown hd1 hd3 HL.out.1 hfp (by omega) (fun m hm1 hm2 => HP.out.2 m ⟨by omega, hm2⟩) (by omega) (fun _ => ⟨hlt, HP.out.1⟩) (fun h => by cases h))
        simp only [if_true] at HN
        go_wp2_with (go_at_call 109; refine HN.out.mono ?_; rintro e w2 ⟨rfl, h2⟩
                     have H2 := hide h2
                     clear h2 HN)
        go_ret
        exact ⟨rfl, H2.out.1.mono (by omega), HL.out.2.2.trans H2.out.2⟩
      · have hd2 : d ≤ 2 := by
          have := HL.out.1
          rcases (by omega : d = 1 ∨ d = 2 ∨ d = 3) with e | e | e <;> subst e <;> omega
        have HN := hide (numbered_any own d first (10 * first) false wr HL.out.2.1 hown hd1 hd3 HL.out.1 (by omega) (by omega) (fun m hm1 hm2 => HP.out.2 m ⟨by omega, by omega⟩) (by omega) (fun h => by cases h) (fun _ => rfl))
        simp only [Bool.false_eq_true, if_false] at HN
        go_wp2_with (go_at_call 109; refine HN.out.mono ?_; rintro e w2 ⟨rfl, h2⟩
                     have H2 := hide h2
                     clear h2 HN)
        go_roundw
        case rel => exact ⟨d + 1, 10 * first, by omega, by omega, by go_num, by go_num, by omega, by rw [HL.out.1, show d + 1 - 1 = (d - 1) + 1 by omega, Nat.pow_succ]; omega, H2.out.1.mono (by omega), HL.out.2.2.trans H2.out.2⟩
        case measure => simp [intOf]; omega
  · rw [pick_own hin]
    obtain ⟨nx, h1, hok⟩ := h
    have HT := hide (take_yes own w h1 (by omega) (by omega) hin)
    replace hok := hide hok
    go_enter Tryz.func78, Tryz.ntmps78
    go_wp2_with (go_at_call 108; refine HT.out.mono ?_; rintro e w1 ⟨rfl, h1, t1⟩
                 have H1 := hide (And.intro h1 t1)
                 clear h1 t1 HT)
    go_ret
    exact ⟨rfl, ⟨nx, H1.out.1.mono (by omega), hok.out.more _⟩, H1.out.2⟩
end Go.Proofs.YtmnenamdjkjlaaaGreatDoor
/- Contract: the names of things below one folder. -/
namespace Go.Names
open Go.RowKit
theorem own_slice {W : World} {base e : Nat} {v : Value} {k : Nat} {xs : List Value} (h : W.ownsRow base e 1 v k xs) : ∃ a c, v = .slice a k c := by
  rcases h.2 with ⟨rfl, h0⟩ | ⟨j, cap, cur, rfl, _⟩
  · exact ⟨none, 0, by rw [h0]⟩
  · exact ⟨_, _, rfl⟩
theorem own_at {W : World} {base e : Nat} {v : Value} {k j : Nat} {xs : List Value} (h : W.ownsRow base e 1 v k xs) (ej : v.ownBlock = some j) : base ≤ j ∧ ∃ cur z, W.heap[j]? = some (.cells cur e z) := by
  rcases h.2 with ⟨rfl, _⟩ | ⟨b, cap, cur, rfl, h2, h3, _⟩
  · cases ej
  · cases ej; exact ⟨h2, _, _, h3⟩
theorem own_stays {W W' : World} {base : Nat} {e : TypeId} {v : Value} {k : Nat} {xs : List Value} (h : W.ownsRow base e 1 v k xs) (hb : ∀ j, v.ownBlock = some j → W'.heap[j]? = W.heap[j]?) : W'.ownsRow base e 1 v k xs := by
  obtain ⟨h0, h1⟩ := h
  refine ⟨h0, ?_⟩
  rcases h1 with h1 | ⟨j, cap, cur, rfl, h2, h3, h4⟩
  · exact .inl h1
  · exact .inr ⟨j, cap, cur, rfl, h2, (hb j rfl).trans h3, h4⟩
theorem cell_new (w : World) (x : Value) (t : TypeId) : ∀ j u, [x][j]? = some u → (w.alloc (.cells #[x] t)).cell? ((⟨w.heap.size, 0, none⟩ : Addr).add j) = some u := by
  intro j u hj
  match j, hj with
  | 0, hj => simp at hj; subst hj; simp [Addr.add]
/-- A slice of things with names, as it is read. -/
def Gvs (w : World) (v : Value) (gs : List (Int × ByteArray)) : Prop :=
  ((∃ a cap, v = .slice a 0 cap) ∧ gs = []) ∨ ∃ b off cap, v = .slice (some ⟨b, off, none⟩) gs.length cap ∧ b < w.heap.size ∧ gs.length ≤ cap ∧ ∀ j g, gs[j]? = some g → w.cell? ⟨b, off + j * 2, none⟩ = some (.int .u64 g.1) ∧ w.cell? ⟨b, off + j * 2 + 1, none⟩ = some (.string g.2)
theorem Gvs.form {w : World} {v : Value} {gs : List (Int × ByteArray)} (h : Gvs w v gs) : ∃ a c, v = .slice a gs.length c := by
  rcases h with ⟨⟨a, cap, h⟩, rfl⟩ | ⟨b, off, cap, h1, _⟩
  · exact ⟨a, cap, h⟩
  · exact ⟨_, cap, h1⟩
theorem Gvs.below {w w' : World} {v : Value} {gs : List (Int × ByteArray)} {B : Nat} (h : Gvs w v gs) (hB : w.heap.size ≤ B) (hb : Below B w w') : Gvs w' v gs := by
  rcases h with h | ⟨b, off, cap, h1, h2, h3, h4⟩
  · exact .inl h
  · exact .inr ⟨b, off, cap, h1, Nat.lt_of_lt_of_le h2 hb.size, h3, fun j g hj => by
      rw [hb.cell (p := ⟨b, off + j * 2, none⟩) (by show b < B; omega), hb.cell (p := ⟨b, off + j * 2 + 1, none⟩) (by show b < B; omega)]
      exact h4 j g hj⟩
theorem Gvs.at {w : World} {a : Option Addr} {n c : Nat} {gs : List (Int × ByteArray)} (h : Gvs w (.slice a n c) gs) (hn : 0 < n) : ∃ b off, a = some ⟨b, off, none⟩ ∧ b < w.heap.size ∧ n ≤ c ∧ ∀ j g, gs[j]? = some g → w.cell? ⟨b, off + j * 2, none⟩ = some (.int .u64 g.1) ∧ w.cell? ⟨b, off + j * 2 + 1, none⟩ = some (.string g.2) := by
  rcases h with ⟨⟨a', cap, h⟩, _⟩ | ⟨b, off, cap, h1, h2, h3, h4⟩
  · simp only [Value.slice.injEq] at h; omega
  · simp only [Value.slice.injEq] at h1
    obtain ⟨rfl, rfl, rfl⟩ := h1
    exact ⟨b, off, rfl, h2, h3, h4⟩
/-- The names of a list of things. -/
def namesOf (gs : List (Int × ByteArray)) : List Bs := gs.map fun g => g.2.data.toList
def strV (l : List Bs) : List Value := l.map fun x => .string ⟨x.toArray⟩
theorem strV_length (l : List Bs) : (strV l).length = l.length := List.length_map _
end Go.Names
namespace Go.Proofs.YtmnenamdjkjlaaaGreatDoor
open Go.RowKit Go.Names Go.MapFun Go.Maps
set_option maxRecDepth 100000 in
theorem nUnderS : Tryz.prog.underlying 43 = some (.slice 9) := by kernel_rfl
set_option maxRecDepth 100000 in
theorem nInfo9 : (Tryz.prog.info? 9).map (fun i => (i.zero, i.size, i.bytes)) = some (some (.string ⟨#[]⟩), 1, 16) := by kernel_rfl
set_option maxRecDepth 100000 in
theorem FoAt.grown {base N : Nat} {F : Fo} {T : List Bs} {nx : Key → Option Int} {w w' : World} (h : FoAt base N F T nx w) (hs : w.heap.size ≤ w'.heap.size) (hb : ∀ k, k < w.heap.size → k = F.fb ∨ k = F.tb ∨ k = F.nb ∨ k < 4 → w'.heap[k]? = w.heap[k]?) : FoAt base N F T nx w' :=
  have ⟨l1, l2, l3, l4⟩ := h.lt
  ⟨(hb _ l1 (.inl rfl)).trans h.row, h.tk.kept (hb _ l2 (.inr (.inl rfl))), h.nxt.kept (hb _ l3 (.inr (.inr (.inl rfl)))), h.fb, h.tb, h.nb, h.ne, h.bs, h.vt.kept hs fun k hk => hb k (by have := h.vt.size; omega) (.inr (.inr (.inr hk)))⟩
/-- What Assign keeps. -/
structure An (W : World) (N : Nat) (F : Fo) (T : List Bs) (vo : Value) (outs : List Bs) (w : World) : Prop where
  fo : FoIs W.heap.size N F T w
  own : w.ownsRow W.heap.size 9 1 vo outs.length (strV outs)
  below : Below W.heap.size W w
set_option maxRecDepth 100000 in
theorem An.step {W w w' : World} {N : Nat} {F : Fo} {T : List Bs} {vo : Value} {outs : List Bs} (h : An W N F T vo outs w) (k : Below w.heap.size w w') : An W N F T vo outs w' := by
  obtain ⟨nx, h1, h2⟩ := h.fo
  refine ⟨⟨nx, h1.below (Nat.le_refl _) k, h2⟩, own_stays h.own (fun j hj => ?_), h.below.trans (k.mono h.below.size)⟩
  obtain ⟨_, cur, z, hc⟩ := own_at h.own hj
  exact k.block j (lt_of_block hc)
set_option maxRecDepth 100000 in
theorem An.turn {W w w' : World} {N N' : Nat} {F : Fo} {T T' : List Bs} {vo : Value} {outs : List Bs} (h : An W N F T vo outs w) (k : FoEx W.heap.size N' F T' w w') : An W N' F T' vo outs w' := by
  obtain ⟨nx, h1, h2⟩ := h.fo
  obtain ⟨k1, k2⟩ := k
  refine ⟨k1, own_stays h.own (fun j hj => ?_), h.below.trans (h1.tnb k2)⟩
  obtain ⟨_, cur, z, hc⟩ := own_at h.own hj
  refine k2.block j (lt_of_block hc) (fun e => ?_) (fun e => ?_)
  · obtain ⟨es, cl, hk⟩ := h1.tk.kind
    rw [e, hk] at hc
    cases hc
  · obtain ⟨es, cl, hk⟩ := h1.nxt.kind
    rw [e, hk] at hc
    cases hc
set_option maxRecDepth 100000 in
/-- append(names, x). -/
theorem An.append {W w : World} {N : Nat} {F : Fo} {T : List Bs} {a0 : Option Addr} {n0 c0 : Nat} {outs : List Bs} (h : An W N F T (.slice a0 n0 c0) outs w) (x : Bs) (hlen : outs.length ≤ 1000)
    {ops : Array Oper} {rest : List Oper} {o : Oper} {a : Act} {Q : Exit → Act → World → Prop} (hg : o.guard = none) (s y : Operand)
    (ho : o.op = .call { callee := .builtin .append, args := #[s, y], argTypes := #[43, 43] }) (hs : a.eval s = .slice a0 n0 c0) (hy : a.eval y = .slice (some ⟨w.heap.size, 0, none⟩) 1 1) {tt : TypeId}
    (k : ∀ a1 c1 w1, An W N F T (.slice a1 (outs.length + 1) c1) (outs ++ [x]) w1 → wpList Tryz.prog ops Q rest (a.put o.dst (.slice a1 (outs.length + 1) c1)) w1) : wpList Tryz.prog ops Q (o :: rest) a (w.alloc (.cells #[.string ⟨x.toArray⟩] tt)) := by
  obtain ⟨i9, hi9, hz0, hz1, hz2⟩ := info_parts nInfo9
  have hsz := h.below.size
  refine wpList_append_own _ hg s y 43 ho W.heap.size 9 i9 (.string ⟨#[]⟩) 1 16 nUnderS hi9 hz0 hz1 hz2 rfl (by decide) _ _ _ hs (h.own.alloc _) ⟨w.heap.size, 0, none⟩ 1 1 [.string ⟨x.toArray⟩] hy rfl (cell_new _ _ _) (fun u hu => by simp at hu; subst hu; rfl) (by unfold maxLen; omega) (by omega) (by simp; omega) ?_
  intro v' w1 hown hgrow _
  obtain ⟨a1, c1, rfl⟩ := own_slice hown
  refine k a1 c1 w1 ?_
  obtain ⟨nx, h1, h2⟩ := h.fo
  have ⟨l1, l2, l3, l4⟩ := h1.lt
  have hblk : ∀ j, j < w.heap.size → some j ≠ (Value.slice a0 n0 c0).ownBlock → w1.heap[j]? = w.heap[j]? := fun j hj hne => (hgrow.block j (by simp; omega) hne).trans (heap_alloc_old _ _ hj)
  refine ⟨⟨nx, h1.grown (by have := hgrow.size; simp at this; omega) (fun j hj hc => hblk j hj (fun e => ?_)), h2⟩, ?_, ?_⟩
  · obtain ⟨hbs, cur, z, hcur⟩ := own_at h.own e.symm
    rcases hc with rfl | rfl | rfl | hc
    · have := h1.row; rw [hcur] at this; cases this
    · obtain ⟨es, cl, hk⟩ := h1.tk.kind; rw [hcur] at hk; cases hk
    · obtain ⟨es, cl, hk⟩ := h1.nxt.kind; rw [hcur] at hk; cases hk
    · have := h1.bs; omega
  · rw [List.length_append]
    unfold strV at hown ⊢
    rw [List.map_append]
    exact hown
  · exact (h.below.alloc hsz _).grown hgrow (by simp; omega) fun j e => (own_at h.own e).1
end Go.Proofs.YtmnenamdjkjlaaaGreatDoor
/- Contract: Assign of any things. -/
namespace Go.Proofs.YtmnenamdjkjlaaaGreatDoor
open Go.RowKit Go.Names Go.MapFun Go.Maps
set_option maxRecDepth 100000 in
theorem names_at {gs : List (Int × ByteArray)} {j : Nat} {g : Int × ByteArray} (h : gs[j]? = some g) : (namesOf gs)[j]? = some g.2.data.toList := by
  unfold namesOf
  rw [List.getElem?_map, h]
  rfl
set_option maxRecDepth 100000 in
theorem new_folder (W : World) (hv : Vt W) : An W 0 ⟨W.heap.size + 2, W.heap.size, W.heap.size + 1⟩ [] (.slice none 0 0) [] (((W.alloc (.map #[] 0)).alloc (.map #[] 0)).alloc (.cells #[.map (some W.heap.size), .map (some (W.heap.size + 1))] 148)) := by
  have k1 : Below W.heap.size W (W.alloc (.map #[] 0)) := (Below.refl _ W).alloc (Nat.le_refl _) _
  have k2 : Below (W.alloc (.map #[] 0)).heap.size (W.alloc (.map #[] 0)) ((W.alloc (.map #[] 0)).alloc (.map #[] 0)) := (Below.refl _ _).alloc (Nat.le_refl _) _
  have k3 : Below ((W.alloc (.map #[] 0)).alloc (.map #[] 0)).heap.size ((W.alloc (.map #[] 0)).alloc (.map #[] 0)) (((W.alloc (.map #[] 0)).alloc (.map #[] 0)).alloc (.cells #[.map (some W.heap.size), .map (some (W.heap.size + 1))] 148)) := (Below.refl _ _).alloc (Nat.le_refl _) _
  have m1 := MapG.made Tryz.prog 9 Value.string unE W
  have m2 := MapG.made Tryz.prog 189 rowV i64E (W.alloc (.map #[] 0))
  have s1 : (W.alloc (.map #[] 0)).heap.size = W.heap.size + 1 := by simp
  have s2 : ((W.alloc (.map #[] 0)).alloc (.map #[] 0)).heap.size = W.heap.size + 2 := by simp
  have e3 := heap_alloc_new ((W.alloc (.map #[] 0)).alloc (.map #[] 0)) (.cells #[.map (some W.heap.size), .map (some (W.heap.size + 1))] 148 (0, 0))
  rw [s2] at e3
  rw [s1] at m2
  have kk : Below W.heap.size W (((W.alloc (.map #[] 0)).alloc (.map #[] 0)).alloc (.cells #[.map (some W.heap.size), .map (some (W.heap.size + 1))] 148)) := (k1.trans (k2.mono (by omega))).trans (k3.mono (by omega))
  have hT : (fun _ => none : ByteArray → Option Unit) = tkn [] := by funext s; simp [tkn]
  rw [hT] at m1
  refine ⟨⟨fun _ => none, ⟨e3, ?_, ?_, by simp, by simp, by simp, by simp, hv.size, hv.below hv.size kk⟩, OkN.none _⟩, World.ownsRow_nil _ _ _ _, kk⟩
  · exact (m1.below (by omega) k2).below (by show W.heap.size < _; omega) k3
  · exact m2.below (by show W.heap.size + 1 < _; omega) k3
set_option maxRecDepth 100000 in
set_option maxHeartbeats 2000000 in
theorem assignAll_any (v : Value) (gs : List (Int × ByteArray)) (W : World) (hv : Vt W) (hg : Gvs W v gs) (hl : gs.length ≤ 130) (hs : ∀ g ∈ gs, g.2.size ≤ 1000000) :
    Calls Tryz.prog 54 #[v] W fun e w' => ∃ a c, e = .returned (.slice a gs.length c) ∧ w'.ownsRow W.heap.size 9 1 (.slice a gs.length c) gs.length (strV (asg (namesOf gs))) ∧ Below W.heap.size W w' := by
  obtain ⟨va, vc, rfl⟩ := hg.form
  have hnl : (namesOf gs).length = gs.length := List.length_map _
  have HN := hide (new_folder W hv)
  have HS := hide hs
  have HG := hide hg
  clear hg hs hv
  replace hnl := hide hnl
  go_enter Tryz.func54, Tryz.ntmps54
  have hmk := @run_makeMap Tryz.prog
  go_wp2
  clear hmk
  go_loopw [4, 12] (fun vo vi wr => ∃ (i : Nat) (oa : Option Addr) (oc : Nat), i ≤ gs.length ∧ vo = .slice oa i oc ∧ vi = .int .i64 i ∧ Hid (An W (20000 * i) ⟨W.heap.size + 2, W.heap.size, W.heap.size + 1⟩ ((asg ((namesOf gs).take i)).map fold) (.slice oa i oc) (asg ((namesOf gs).take i)) wr)) (fun _ vi _ => 1000 - (intOf vi).toNat)
  case atStart => exact ⟨0, none, 0, Nat.zero_le _, rfl, rfl, HN.out⟩
  case round =>
    clear HN
    obtain ⟨i, oa, oc, hi, rfl, rfl, HH⟩ := hrel
    by_cases hlt : i < gs.length
    · have hlt' : (i : Int) < gs.length := by omega
      obtain ⟨⟨id, nm⟩, hgi⟩ : ∃ g, gs[i]? = some g := ⟨_, List.getElem?_eq_getElem hlt⟩
      have hns := HS.out _ (List.mem_of_getElem? hgi)
      have hnext := hide (asg_take_succ (namesOf gs) (names_at hgi))
      obtain ⟨b, off, rfl, hbW, hnc, hcell⟩ := (HG.out.below (Nat.le_refl _) HH.out.below).at (by omega)
      obtain ⟨hc0, hc1⟩ := hcell i _ hgi
      have hnc' : (gs.length : Int) ≤ vc := by omega
      clear hcell
      have hLn : Hid ((asg ((namesOf gs).take i)).length = i) := by
        show _ = _
        rw [asg_length, List.length_take, hnl.out]
        omega
      generalize asg ((namesOf gs).take i) = outs at HH hnext hLn
      obtain ⟨X, hX⟩ : ∃ X : ByteArray, X = ⟨(fix nm.data.toList).toArray⟩ := ⟨_, rfl⟩
      have hXd : fix nm.data.toList = X.data.toList := by rw [hX]
      have hXs : X.size ≤ 32 := by rw [hX, ba_size]; exact (fix_length _).2
      have HF := hide (fun w1 => fix_any nm w1 hns)
      rw [← hX] at HF
      rw [hXd] at hnext
      have hTl : Hid ((outs.map fold).length ≤ 900) := by show _ ≤ _; rw [List.length_map, hLn.out]; omega
      clear hX hXd hgi HG hbW
      go_wp2_with (first
        | (go_at_call 79; refine (HF.out _).mono ?_; rintro e w1 ⟨rfl, k1⟩
           have H1 := hide ((HH.out.step ((Below.refl _ wr).alloc (Nat.le_refl _) _)).step k1)
           clear k1)
        | (go_at_call 78; refine (assign_any X w1 H1.out.fo hXs hTl.out (by omega)).mono ?_; rintro e w2 ⟨rfl, k2⟩
           have H2 := hide (H1.out.turn k2)
           clear k2)
        | (at_builtin; refine H2.out.append (pick (outs.map fold) X.data.toList) (by rw [hLn.out]; omega) rfl _ _ rfl rfl rfl ?_
           intro a1 c1 w3 h3
           have H3 := hide h3
           clear h3))
      go_roundw
      case rel =>
        refine ⟨i + 1, a1, c1, by omega, by rw [hLn.out], by go_num, ?_⟩
        show An _ _ _ _ _ _ _
        rw [hnext.out, List.map_append]
        have := H3.out
        rw [hLn.out] at this
        exact ⟨this.fo.mono (by omega), this.own, this.below⟩
      case measure => simp [intOf]; omega
    · have hlt' : ¬ (i : Int) < gs.length := by omega
      have hig : i = gs.length := by omega
      subst hig
      go_wp2
      go_ret
      have h9 := HH.out
      rw [List.take_of_length_le (by rw [hnl.out]; exact Nat.le_refl _)] at h9
      have h8 := h9.own
      rw [asg_length, hnl.out] at h8
      exact ⟨_, _, rfl, h8, h9.below⟩
end Go.Proofs.YtmnenamdjkjlaaaGreatDoor
/- Contracts: a text that is not too long; two names that are alike, small. -/
namespace Go.Names
theorem cand1 (own : Bs) : cand own 1 = own.take 30 ++ [126, 49] := by
  unfold cand
  rw [nd_small (by decide), dig_small (by decide)]
  rfl
theorem asg3 : asg [[97], [65], [97, 126, 49]] = [[97], [65, 126, 49], [97, 126, 49, 126, 49]] := by
  have h1 : asg [[97]] = [[97]] := by
    rw [show ([[97]] : List Bs) = [] ++ [[97]] from rfl, asg_snoc, pick_own (by decide)]
    rfl
  have h2 : asg [[97], [65]] = [[97], [65, 126, 49]] := by
    rw [show ([[97], [65]] : List Bs) = [[97]] ++ [[65]] from rfl, asg_snoc, h1, show fix [65] = [65] by decide, pick_cand (n := 1) (by decide) (by decide) (by rw [cand1]; decide) (fun m h h' => by omega), cand1]
    rfl
  rw [show ([[97], [65], [97, 126, 49]] : List Bs) = [[97], [65]] ++ [[97, 126, 49]] from rfl, asg_snoc, h2, show fix [97, 126, 49] = [97, 126, 49] by decide, pick_cand (n := 1) (by decide) (by decide) (by rw [cand1]; decide) (fun m h h' => by omega), cand1]
  rfl
/-- At most 300 bytes of a text. -/
def few (s : ByteArray) : ByteArray := if 300 < s.size then s.extract 0 300 else s
theorem few_size (s : ByteArray) : (few s).size ≤ 300 := by
  unfold few
  split
  · rw [ByteArray.size_extract]; omega
  · omega
end Go.Names
namespace Go.Proofs.YtmnenamdjkjlaaaGreatDoor
open Go.RowKit Go.Names
end Go.Proofs.YtmnenamdjkjlaaaGreatDoor
