/- Contract: what was done, gone over from its end, each with a fact that all have. -/
import Derived.Test.YtknnamanbeckeaaMoveClone
namespace Go.Proofs.Ytknnamanbeckeaa
open Go.RowKit Go.Opn Go.Stamp Go.MapInt Go.Mov Go.Shelf
attribute [local go_sem] Oper.semAt_some
abbrev Bp (p : Sp → Prop) := { x : Nat × Sp // p x.2 }
set_option maxHeartbeats 4000000 in
set_option maxRecDepth 100000 in
theorem back_of {a : Option Addr} {c : Nat} (p : Sp → Prop) (ss : List Sp) (hp : ∀ s ∈ ss, p s) (bx g m : Nat) (w0 : World) (hb : w0.cell? ⟨bx, 0, none⟩ = some (.slice a ss.length c)) (hg : ∀ x, a = some x → x.block = g) (hR : StepsAt w0 (.slice a ss.length c) ss) (hn : ss.length ≤ 1000000) :
    SeqStopsK Fence.wide m Try.prog 54 #[.pointer (some ⟨bx, 0, none⟩)] (fun x : Bp p => #[.int .i64 x.1.1, x.1.2.v]) (KpB bx g) (fun xs => xs.map (·.1.2) = ss.reverse) (fun _ => True) ss.length w0 := by
  intro l J Jx W hW hJ hJx hY h0
  refine callsIn_of_wp Try.func54 rfl trivial ?_ rfl
  simp only [Try.ntmps54, List.size_toArray, List.length_cons, List.length_nil, Nat.reduceAdd, Nat.reduceSub, Array.replicate_succ, Array.replicate_zero, List.push_toArray, List.append_toArray, List.nil_append, List.cons_append]
  have hbW : W.cell? ⟨bx, 0, none⟩ = some (.slice a ss.length c) := (hW.cell (p := ⟨bx, 0, none⟩) (cell_lt hb)).trans hb
  have HY := hide hY
  have H0 := hide (And.intro h0 (And.intro hbW (hR.below hW)))
  have HG := hide hg
  clear hY h0 hW hJ hJx hg hb hR
  gi_wp2_with fail
  gi_loopw [3] (fun vs wr => ∃ (k : Nat) (pre : List (Bp p)), vs = .int .i64 ((k : Int) - 1) ∧ k ≤ ss.length ∧ Hid (pre.map (·.1.2) = (ss.drop k).reverse ∧ J pre wr ∧ wr.cell? ⟨bx, 0, none⟩ = some (.slice a ss.length c) ∧ StepsAt wr (.slice a ss.length c) ss)) (fun vs _ => (intOf vs + 1).toNat)
  case atStart => exact ⟨ss.length, [], rfl, Nat.le_refl _, by simp, H0.out⟩
  case round =>
    obtain ⟨k, pre, rfl, hk, HP⟩ := hrel
    clear H0
    cases k with
    | zero =>
      gi_wp2_with fail
      go_end0
      refine ⟨⟨_, rfl⟩, .inl ⟨pre, ?_, HP.out.2.1⟩⟩
      have := HP.out.1
      simpa using this
    | succ k =>
      have hlen : pre.length = ss.length - (k + 1) := by have := congrArg List.length HP.out.1; simpa using this
      obtain ⟨s, hs⟩ : ∃ s, ss[k]? = some s := ⟨_, List.getElem?_eq_getElem (by omega)⟩
      have hps : p s := hp s (List.mem_of_getElem? hs)
      obtain ⟨gg, off, ha, _, hcap, hgl, hrg⟩ := HP.out.2.2.2.at (fun e => by rw [e] at hk; simp at hk)
      obtain ⟨fn, tmps, assign, body, hy, hR⟩ := HY.out pre ⟨(k, s), hps⟩ wr HP.out.2.1 (by omega)
      have c0 := HP.out.2.2.1
      subst ha
      obtain ⟨d0, d1, d2, d3, d4, d5, d6, d7, d8, d9, d10, d11, d12, d13, d14, d15, d16⟩ := cells17 (hrg k s hs)
      dsimp only at hy
      unfold Sp.v at hy
      have e1 : ((k + 1 : Nat) : Int) - 1 = k := by omega
      rw [e1]
      have hkl : (k : Int) < ss.length := by omega
      have hk0 : (0 : Int) ≤ k := by omega
      have HS := hide (And.intro hs (And.intro hgl hrg))
      clear hs hgl hrg hlen
      gi_wp2_with fail
      refine ⟨fun h => (by cases h), hR.mono ?_⟩
      rintro e W3 (⟨rfl, hJ3, hk3⟩ | ⟨rfl, hJx3⟩)
      · have hH : Hid (J (pre ++ [⟨(k, s), hps⟩]) W3 ∧ W3.cell? ⟨bx, 0, none⟩ = some (.slice (some ⟨gg, off, none⟩) ss.length c) ∧ StepsAt W3 (.slice (some ⟨gg, off, none⟩) ss.length c) ss) := by
          refine ⟨hJ3, (cell_same hk3.2.1).trans HP.out.2.2.1, .inr ⟨gg, off, c, rfl, Nat.lt_of_lt_of_le HS.out.2.1 hk3.1, hcap, fun i s' hs' j u hu => ?_⟩⟩
          have hgg : gg = g := HG.out _ rfl
          have e4 : W3.heap[gg]? = wr.heap[gg]? := hgg ▸ hk3.2.2
          exact (cell_same e4).trans (HS.out.2.2 i s' hs' j u hu)
        clear hJ3 hk3 hR hy
        gi_wp2_with fail
        go_roundw
        case rel =>
          refine ⟨k, pre ++ [⟨(k, s), hps⟩], rfl, by omega, ?_, hH.out⟩
          rw [List.map_append, HP.out.1]
          have e2 : ss.drop k = s :: ss.drop (k + 1) := by
            rw [List.drop_eq_getElem_cons (by omega)]
            have := HS.out.1
            rw [List.getElem?_eq_getElem (by omega)] at this
            rw [Option.some.inj this]
          rw [e2, List.reverse_cons]
          rfl
        case measure => simp only [intOf]; omega
      · clear hR hy
        gi_wp2_with fail
        refine bodyPost_ret (results_none rfl _ _ _) rfl ?_
        exact ⟨⟨_, rfl⟩, .inr ⟨pre ++ [⟨(k, s), hps⟩], trivial, hJx3⟩⟩
end Go.Proofs.Ytknnamanbeckeaa
