/- Contract: a name that may be, or the first one with a number that is nobody's yet. -/
import Derived.Test.YtpihgffcfoelbaaDoorNameNumb
namespace Go.Names
theorem nth_pos (own : Bs) {m : Nat} (h : 1 ≤ m) : nth own m = cand own m := by unfold nth; rw [if_neg (by omega)]
theorem used_below {T : List Bs} {own : Bs} {m : Nat} (h1 : 1 ≤ m) (h2 : m < pickN T own) : fold (cand own m) ∈ T := by
  have := (pickN_spec T own).2 m h2
  rwa [nth_pos own h1] at this
theorem pick_is {T : List Bs} {own : Bs} (h : 1 ≤ pickN T own) : pick T own = cand own (pickN T own) := nth_pos own h
theorem pick_out {T : List Bs} {own : Bs} (h : 1 ≤ pickN T own) : fold (cand own (pickN T own)) ∉ T := by
  have := (pickN_spec T own).1
  rwa [nth_pos own h] at this
theorem pickN_pos {T : List Bs} {own : Bs} (h : fold own ∈ T) : 1 ≤ pickN T own := by
  rcases Nat.eq_zero_or_pos (pickN T own) with h0 | h0
  · have := (pickN_spec T own).1
    rw [h0] at this
    exact absurd h this
  · exact h0
theorem ba_of (s : ByteArray) : (⟨s.data.toList.toArray⟩ : ByteArray) = s := rfl
end Go.Names
namespace Go.Proofs.YtpihgffcfoelbaaDoor
open Go.RowKit Go.Names Go.MapFun Go.Maps
theorem FoIs.mono {base N N' : Nat} {F : Fo} {T : List Bs} {w : World} (h : FoIs base N F T w) (hN : N ≤ N') : FoIs base N' F T w := by
  obtain ⟨nx, h1, h2⟩ := h
  exact ⟨nx, h1.mono hN, h2⟩
set_option maxRecDepth 100000 in
set_option maxHeartbeats 2000000 in
theorem assign_any {base N : Nat} {F : Fo} {T : List Bs} (own : ByteArray) (w : World) (h : FoIs base N F T w) (hown : own.size ≤ 32) (hT : T.length ≤ 900) (hN : N ≤ 5000000) :
    Calls Tryd.prog 26 #[.pointer (some ⟨F.fb, 0, none⟩), .string own] w fun e w' => e = .returned (.string ⟨(pick T own.data.toList).toArray⟩) ∧ FoEx base (N + 20000) F (T ++ [fold (pick T own.data.toList)]) w w' := by
  by_cases hin : fold own.data.toList ∈ T
  · have hp1 := pickN_pos hin
    have hp2 : pickN T own.data.toList ≤ 901 := Nat.le_trans (pickN_le T own.data.toList) (by omega)
    rw [pick_is hp1]
    have HP := hide (And.intro (pick_out hp1) (fun m (hm : 1 ≤ m ∧ m < pickN T own.data.toList) => used_below (T := T) (own := own.data.toList) hm.1 hm.2))
    generalize pickN T own.data.toList = p at HP hp1 hp2
    obtain ⟨nx, h1, hok⟩ := h
    have HT := hide (take_no own w h1 (by omega) hin)
    replace hok := hide hok
    clear h1 hin
    go_enter Tryd.func26, Tryd.ntmps26
    go_wp2_with (go_at_call 32; refine HT.out.mono ?_; rintro e w1 ⟨rfl, h1, t1⟩
                 have H1 := hide (show FoIs base N F T w1 ∧ FoTn F w w1 from ⟨⟨nx, h1, hok.out⟩, t1⟩)
                 clear h1 t1 HT)
    go_loopw [5, 6] (fun vf vd wr => ∃ d first : Nat, 1 ≤ d ∧ d ≤ 3 ∧ vf = .int .i64 first ∧ vd = .int .i64 d ∧ first ≤ p ∧ Hid (first = 10 ^ (d - 1) ∧ FoIs base (N + 3000 * d) F T wr ∧ FoTn F w wr)) (fun _ vd _ => 4 - (intOf vd).toNat)
    case atStart => exact ⟨1, 1, Nat.le_refl _, by omega, rfl, rfl, hp1, rfl, H1.out.1.mono (by omega), H1.out.2⟩
    case round =>
      clear H1 hok
      obtain ⟨d, first, hd1, hd3, rfl, rfl, hfp, HL⟩ := hrel
      have hf1000 : first ≤ 100 := by
        have := HL.out.1
        rcases (by omega : d = 1 ∨ d = 2 ∨ d = 3) with e | e | e <;> subst e <;> omega
      have hf1 : 1 ≤ first := by rw [HL.out.1]; exact Nat.one_le_pow _ _ (by decide)
      by_cases hlt : p < 10 * first
      · have HN := hide (numbered_any own d first p true wr HL.out.2.1 hown hd1 hd3 HL.out.1 hfp (by omega) (fun m hm1 hm2 => HP.out.2 m ⟨by omega, hm2⟩) (by omega) (fun _ => ⟨hlt, HP.out.1⟩) (fun h => by cases h))
        simp only [if_true] at HN
        go_wp2_with (go_at_call 33; refine HN.out.mono ?_; rintro e w2 ⟨rfl, h2⟩
                     have H2 := hide h2
                     clear h2 HN)
        go_ret
        exact ⟨rfl, H2.out.1.mono (by omega), HL.out.2.2.trans H2.out.2⟩
      · have hd2 : d ≤ 2 := by
          have := HL.out.1
          rcases (by omega : d = 1 ∨ d = 2 ∨ d = 3) with e | e | e <;> subst e <;> omega
        have HN := hide (numbered_any own d first (10 * first) false wr HL.out.2.1 hown hd1 hd3 HL.out.1 (by omega) (by omega) (fun m hm1 hm2 => HP.out.2 m ⟨by omega, by omega⟩) (by omega) (fun h => by cases h) (fun _ => rfl))
        simp only [Bool.false_eq_true, if_false] at HN
        go_wp2_with (go_at_call 33; refine HN.out.mono ?_; rintro e w2 ⟨rfl, h2⟩
                     have H2 := hide h2
                     clear h2 HN)
        go_roundw
        case rel => exact ⟨d + 1, 10 * first, by omega, by omega, by go_num, by go_num, by omega, by rw [HL.out.1, show d + 1 - 1 = (d - 1) + 1 by omega, Nat.pow_succ]; omega, H2.out.1.mono (by omega), HL.out.2.2.trans H2.out.2⟩
        case measure => simp [intOf]; omega
  · rw [pick_own hin]
    obtain ⟨nx, h1, hok⟩ := h
    have HT := hide (take_yes own w h1 (by omega) (by omega) hin)
    replace hok := hide hok
    go_enter Tryd.func26, Tryd.ntmps26
    go_wp2_with (go_at_call 32; refine HT.out.mono ?_; rintro e w1 ⟨rfl, h1, t1⟩
                 have H1 := hide (And.intro h1 t1)
                 clear h1 t1 HT)
    go_ret
    exact ⟨rfl, ⟨nx, H1.out.1.mono (by omega), hok.out.more _⟩, H1.out.2⟩
end Go.Proofs.YtpihgffcfoelbaaDoor
