/- Contracts: what stands behind a place is kept aside, and gone over from its end. -/
import Derived.Test.YtknnamanbeckeaaMoveSearch
import Derived.Test.YtknnamanbeckeaaMoveBelow
import Derived.Deep.AppendLies
namespace Go.Proofs.Ytknnamanbeckeaa
open Go.RowKit Go.Opn Go.Stamp Go.MapInt Go.Mov Go.Shelf
attribute [local go_sem] Oper.semAt_some
theorem infoSp3 : (Try.prog.info? 75).map (fun i => (i.zero, i.size, i.bytes)) = some (some (Sp.mk ⟨⟨0, ⟨0, 0⟩, 0, 0, ⟨#[]⟩, false, ⟨#[]⟩, 0⟩, ⟨#[]⟩⟩ none).v, 17, 176) := by kernel_rfl
theorem cs_one (s : Sp) : ∀ u ∈ s.cs, u.oneCell' = true := by
  intro u hu
  unfold Sp.cs En.cs Th.cs at hu
  simp only [List.cons_append, List.nil_append, List.mem_cons, List.not_mem_nil, or_false] at hu
  rcases hu with rfl | rfl | rfl | rfl | rfl | rfl | rfl | rfl | rfl | rfl | rfl | rfl | rfl | rfl | rfl | rfl | rfl <;> rfl
theorem flat_at {ss : List Sp} : ∀ {j : Nat} {u : Value}, (ss.flatMap Sp.cs)[j]? = some u → ∃ s, ss[j / 17]? = some s ∧ s.cs[j % 17]? = some u := by
  induction ss with
  | nil => intro j u h; simp at h
  | cons a r ih =>
    intro j u h
    rw [List.flatMap_cons] at h
    by_cases hj : j < 17
    · rw [List.getElem?_append_left (by rw [Sp.cs_length]; exact hj)] at h
      exact ⟨a, by rw [show j / 17 = 0 by omega]; rfl, by rw [show j % 17 = j by omega]; exact h⟩
    · rw [List.getElem?_append_right (by rw [Sp.cs_length]; omega), Sp.cs_length] at h
      obtain ⟨s, h1, h2⟩ := ih h
      refine ⟨s, ?_, by rw [show j % 17 = (j - 17) % 17 by omega]; exact h2⟩
      rw [show j / 17 = (j - 17) / 17 + 1 by omega, List.getElem?_cons_succ]
      exact h1
theorem flat_length (ss : List Sp) : (ss.flatMap Sp.cs).length = ss.length * 17 := by
  induction ss with
  | nil => rfl
  | cons a r ih => rw [List.flatMap_cons, List.length_append, ih, Sp.cs_length, List.length_cons]; omega
theorem nilSp1 (w : World) : (binOp .eql 64 (.slice none 0 0) (.slice none 0 0)).run Try.prog w = .ok (.bool true) w := by kernel_rfl
theorem nilSp2 (g off n cap : Nat) (w : World) : (binOp .eql 64 (.slice (some ⟨g, off, none⟩) n cap) (.slice none 0 0)).run Try.prog w = .ok (.bool false) w := by kernel_rfl
theorem own_geS {W : World} {base e : Nat} {v : Value} {k j z : Nat} {xs : List Value} (h : W.ownsRow base e z v k xs) (e : v.ownBlock = some j) : base ≤ j := (h.lt j e).1
set_option maxHeartbeats 2000000 in
set_option maxRecDepth 100000 in
theorem cloneSp_any (v : Value) (ss : List Sp) (w : World) (hR : StepsAt w v ss) (hn : ss.length ≤ 1000000) :
    Calls Try.prog 41 #[v] w fun r w' => ∃ v', r = .returned v' ∧ w'.ownsRow w.heap.size 75 17 v' ss.length (ss.flatMap Sp.cs) ∧ Below w.heap.size w w' := by
  obtain ⟨i0, hi, hz0, hz1, hz2⟩ := info_parts infoSp3
  rcases hR with ⟨rfl, rfl⟩ | ⟨g, off, cap, rfl, hg, hcap, hrg⟩
  · have hb := nilSp1
    go_enter Try.func41, Try.ntmps41
    go_wp2
    go_ret
    exact ⟨_, rfl, World.ownsRow_nil _ _ _ _, Below.refl _ _⟩
  · have hnews : ∀ j u, (ss.flatMap Sp.cs)[j]? = some u → w.cell? ((⟨g, off, none⟩ : Addr).add j) = some u := by
      intro j u hu
      obtain ⟨s, h1, h2⟩ := flat_at hu
      have := hrg _ s h1 _ u h2
      rw [Addr.add_mid]
      rw [show off + j / 17 * 17 + j % 17 = off + j by omega] at this
      exact this
    have hone : ∀ u ∈ ss.flatMap Sp.cs, u.oneCell' = true := by
      intro u hu
      obtain ⟨s, _, h2⟩ := List.mem_flatMap.1 hu
      exact cs_one s u h2
    have H := hide (And.intro hnews hone)
    have hb := nilSp2 g off ss.length cap
    clear hrg hnews hone
    go_enter Try.func41, Try.ntmps41
    go_wp2_with (at_builtin; refine wpList_append_own _ rfl _ _ 64 rfl w.heap.size 75 i0 _ 17 176 Try.underlying64 hi hz0 hz1 hz2 rfl (by decide) _ 0 [] rfl ?a1 ⟨g, off, none⟩ ss.length cap (ss.flatMap Sp.cs) rfl (flat_length ss) ?a2 H.out.2 ?a3 ?a4 ?a5 ?_)
    case a1 => exact World.ownsRow_made w #[] 0 (Nat.le_refl _) (Nat.zero_le _) rfl
    case a2 =>
      intro j u hu
      have hb := (Below.refl w.heap.size w).alloc (Nat.le_refl _) (.cells #[] 75)
      rw [Addr.add_mid]
      refine (hb.cell (p := ⟨g, off + j, none⟩) hg).trans ?_
      have := H.out.1 j u hu
      rwa [Addr.add_mid] at this
    case a3 => unfold maxLen; omega
    case a4 => omega
    case a5 => simp
    intro v' w3 hown hgrow _
    have H3 : Hid (w3.ownsRow w.heap.size 75 17 v' ss.length (ss.flatMap Sp.cs) ∧ Below w.heap.size w w3) := by
      refine ⟨by simpa using hown, ?_⟩
      have hb := (Below.refl w.heap.size w).alloc (Nat.le_refl _) (.cells #[] 75)
      exact hb.grown hgrow hb.size fun k e => by simp [Value.ownBlock] at e; omega
    obtain ⟨va, vc, rfl⟩ : ∃ a c, v' = .slice a ss.length c := by
      rcases H3.out.1.2 with ⟨h1, h2⟩ | ⟨g, cap, cur, h1, _⟩
      · exact ⟨none, 0, by rw [h1, h2]⟩
      · exact ⟨_, _, h1⟩
    clear hown hgrow
    go_wp2_with fail
    go_ret
    exact ⟨_, rfl, H3.out⟩
theorem backward_any (a : Option Addr) (n c : Nat) (w : World) : Calls Try.prog 42 #[.slice a n c] w fun e w' => e = .returned (.func (.func 54) #[] #[.pointer (some ⟨w.heap.size, 0, none⟩)]) ∧ w' = w.alloc (.cells #[.slice a n c] 64) := by
  go_enter Try.func42, Try.ntmps42
  go_wp2
  go_ret
  exact ⟨rfl, rfl⟩
theorem cells17 {w : World} {g o : Nat} {s : Sp} (h : w.rangeAt g o s.cs) : w.cell? ⟨g, o, none⟩ = some (.int .i64 s.en.op.kind) ∧ w.cell? ⟨g, o + 1, none⟩ = some (.int .u64 s.en.op.tm.c) ∧ w.cell? ⟨g, o + 2, none⟩ = some (.int .i64 s.en.op.tm.k) ∧ w.cell? ⟨g, o + 3, none⟩ = some (.int .u64 s.en.op.thing) ∧ w.cell? ⟨g, o + 4, none⟩ = some (.int .u64 s.en.op.par) ∧ w.cell? ⟨g, o + 5, none⟩ = some (.string s.en.op.name) ∧ w.cell? ⟨g, o + 6, none⟩ = some (.bool s.en.op.dir) ∧ w.cell? ⟨g, o + 7, none⟩ = some (.string s.en.op.dg) ∧ w.cell? ⟨g, o + 8, none⟩ = some (.int .i64 s.en.op.size) ∧ w.cell? ⟨g, o + 9, none⟩ = some (.string s.en.h) ∧ w.cell? ⟨g, o + 10, none⟩ = some (.int .u64 s.x.id) ∧ w.cell? ⟨g, o + 11, none⟩ = some (.int .u64 s.x.par) ∧ w.cell? ⟨g, o + 12, none⟩ = some (.string s.x.name) ∧ w.cell? ⟨g, o + 13, none⟩ = some (.bool s.x.dir) ∧ w.cell? ⟨g, o + 14, none⟩ = some (.string s.x.dg) ∧ w.cell? ⟨g, o + 15, none⟩ = some (.int .i64 s.x.size) ∧ w.cell? ⟨g, o + 16, none⟩ = some (.bool s.was.isSome) :=
  ⟨h 0 _ rfl, h 1 _ rfl, h 2 _ rfl, h 3 _ rfl, h 4 _ rfl, h 5 _ rfl, h 6 _ rfl, h 7 _ rfl, h 8 _ rfl, h 9 _ rfl, h 10 _ rfl, h 11 _ rfl, h 12 _ rfl, h 13 _ rfl, h 14 _ rfl, h 15 _ rfl, h 16 _ rfl⟩
/-- What going backward keeps: the box, and the row. -/
def KpB (bx g : Nat) (W W' : World) : Prop := W.heap.size ≤ W'.heap.size ∧ W'.heap[bx]? = W.heap[bx]? ∧ W'.heap[g]? = W.heap[g]?
theorem cell_same {w w' : World} {b i : Nat} (h : w'.heap[b]? = w.heap[b]?) : w'.cell? ⟨b, i, none⟩ = w.cell? ⟨b, i, none⟩ := by unfold World.cell?; dsimp only; rw [h]
set_option maxHeartbeats 4000000 in
set_option maxRecDepth 100000 in
theorem back_in {a : Option Addr} {c : Nat} (ss : List Sp) (bx g m : Nat) (w0 : World) (hb : w0.cell? ⟨bx, 0, none⟩ = some (.slice a ss.length c)) (hg : ∀ x, a = some x → x.block = g) (hR : StepsAt w0 (.slice a ss.length c) ss) (hn : ss.length ≤ 1000000) :
    SeqStopsK Fence.wide m Try.prog 54 #[.pointer (some ⟨bx, 0, none⟩)] (fun x : Nat × Sp => #[.int .i64 x.1, x.2.v]) (KpB bx g) (fun xs => xs.map (·.2) = ss.reverse) (fun _ => True) ss.length w0 := by
  intro l J Jx W hW hJ hJx hY h0
  refine callsIn_of_wp Try.func54 rfl trivial ?_ rfl
  simp only [Try.ntmps54, List.size_toArray, List.length_cons, List.length_nil, Nat.reduceAdd, Nat.reduceSub, Array.replicate_succ, Array.replicate_zero, List.push_toArray, List.append_toArray, List.nil_append, List.cons_append]
  have hbW : W.cell? ⟨bx, 0, none⟩ = some (.slice a ss.length c) := (hW.cell (p := ⟨bx, 0, none⟩) (cell_lt hb)).trans hb
  have HY := hide hY
  have H0 := hide (And.intro h0 (And.intro hbW (hR.below hW)))
  have HG := hide hg
  clear hY h0 hW hJ hJx hg hb hR
  gi_wp2_with fail
  gi_loopw [3] (fun vs wr => ∃ (k : Nat) (pre : List (Nat × Sp)), vs = .int .i64 ((k : Int) - 1) ∧ k ≤ ss.length ∧ Hid (pre.map (·.2) = (ss.drop k).reverse ∧ J pre wr ∧ wr.cell? ⟨bx, 0, none⟩ = some (.slice a ss.length c) ∧ StepsAt wr (.slice a ss.length c) ss)) (fun vs _ => (intOf vs + 1).toNat)
  case atStart => exact ⟨ss.length, [], rfl, Nat.le_refl _, by simp, H0.out⟩
  case round =>
    obtain ⟨k, pre, rfl, hk, HP⟩ := hrel
    clear H0
    cases k with
    | zero =>
      gi_wp2_with fail
      go_end0
      refine ⟨⟨_, rfl⟩, .inl ⟨pre, ?_, HP.out.2.1⟩⟩
      have := HP.out.1
      simpa using this
    | succ k =>
      have hlen : pre.length = ss.length - (k + 1) := by have := congrArg List.length HP.out.1; simpa using this
      obtain ⟨s, hs⟩ : ∃ s, ss[k]? = some s := ⟨_, List.getElem?_eq_getElem (by omega)⟩
      obtain ⟨gg, off, ha, _, hcap, hgl, hrg⟩ := HP.out.2.2.2.at (fun e => by rw [e] at hk; simp at hk)
      obtain ⟨fn, tmps, assign, body, hy, hR⟩ := HY.out pre (k, s) wr HP.out.2.1 (by omega)
      have c0 := HP.out.2.2.1
      subst ha
      obtain ⟨d0, d1, d2, d3, d4, d5, d6, d7, d8, d9, d10, d11, d12, d13, d14, d15, d16⟩ := cells17 (hrg k s hs)
      dsimp only at hy
      unfold Sp.v at hy
      have e1 : ((k + 1 : Nat) : Int) - 1 = k := by omega
      rw [e1]
      have hkl : (k : Int) < ss.length := by omega
      have hk0 : (0 : Int) ≤ k := by omega
      have HS := hide (And.intro hs (And.intro hgl hrg))
      clear hs hgl hrg hlen
      gi_wp2_with fail
      refine ⟨fun h => (by cases h), hR.mono ?_⟩
      rintro e W3 (⟨rfl, hJ3, hk3⟩ | ⟨rfl, hJx3⟩)
      · have hH : Hid (J (pre ++ [(k, s)]) W3 ∧ W3.cell? ⟨bx, 0, none⟩ = some (.slice (some ⟨gg, off, none⟩) ss.length c) ∧ StepsAt W3 (.slice (some ⟨gg, off, none⟩) ss.length c) ss) := by
          refine ⟨hJ3, (cell_same hk3.2.1).trans HP.out.2.2.1, .inr ⟨gg, off, c, rfl, Nat.lt_of_lt_of_le HS.out.2.1 hk3.1, hcap, fun i s' hs' j u hu => ?_⟩⟩
          have hgg : gg = g := HG.out _ rfl
          have e4 : W3.heap[gg]? = wr.heap[gg]? := hgg ▸ hk3.2.2
          exact (cell_same e4).trans (HS.out.2.2 i s' hs' j u hu)
        clear hJ3 hk3 hR hy
        gi_wp2_with fail
        go_roundw
        case rel =>
          refine ⟨k, pre ++ [(k, s)], rfl, by omega, ?_, hH.out⟩
          rw [List.map_append, HP.out.1]
          have e2 : ss.drop k = s :: ss.drop (k + 1) := by
            rw [List.drop_eq_getElem_cons (by omega)]
            have := HS.out.1
            rw [List.getElem?_eq_getElem (by omega)] at this
            rw [Option.some.inj this]
          rw [e2, List.reverse_cons]
          rfl
        case measure => simp only [intOf]; omega
      · clear hR hy
        gi_wp2_with fail
        refine bodyPost_ret (results_none rfl _ _ _) rfl ?_
        exact ⟨⟨_, rfl⟩, .inr ⟨pre ++ [(k, s)], trivial, hJx3⟩⟩
end Go.Proofs.Ytknnamanbeckeaa
