/- Several texts in one: DiskFall. -/
import Derived.Test.YtoineobjmllicaaGreatDoorDkFour
import Derived.Deep.DeepCutAuto
import Derived.BigQuiet
/- Contract of what a loss of power leaves of a file. -/
namespace Go.Dk
open Go.RowKit
/-- What a settling leaves of a file. -/
def SettledTo (base : Nat) (w w' : World) (F : WF) (l : Bs) : Prop := ∃ F' : WF, F'.a = F.a.settle l ∧ F'.blk = F.blk ∧ FileAt base w' F' ∧ Tch F.foot w w' ∧ ∀ b, F'.foot b → F.foot b
theorem settled_to {base : Nat} {w w1 w' : World} {F : WF} (h : FileAt base w F) (hb : Below w.heap.size w w1) (v : Value) (l : Bs) (hv : Row base w v l) (hown : ∀ g, v.ownBlock = some g → F.foot g)
    (hrow : w'.heap[F.blk]? = some (.cells #[.bool true, v, .slice none 0 0] 118 (0, 0))) (t : Tch (· = F.blk) w1 w') : SettledTo base w w' F l := by
  have t2 : Tch (· = F.blk) w w' := (Tch.of_below hb).trans t (fun _ x => x) (fun _ _ x => x)
  obtain ⟨h1, h2⟩ := h.settled v l hv hown hrow t2
  exact ⟨⟨F.a.settle l, F.blk, v, .slice none 0 0, []⟩, rfl, rfl, h1, t2.mono fun b e => .inl e, h2⟩
/-- The value that is settled at, and its bytes: piece number n - 1, or the sure ones. -/
theorem FileAt.upto {base : Nat} {w : World} {F : WF} (h : FileAt base w F) {n : Nat} (hn : n ≤ F.cs.length) :
    ∃ v, (n = 0 → v = F.sv) ∧ (0 < n → ∃ c, F.cs[n - 1]? = some c ∧ v = c.v) ∧ Row base w v (F.a.after n) ∧ ∀ g, v.ownBlock = some g → F.foot g := by
  cases n with
  | zero =>
    refine ⟨F.sv, fun _ => rfl, fun h => absurd h (by omega), h.all _ (List.mem_cons_self ..), fun g hg => .inr (.inr ⟨_, List.mem_cons_self .., hg⟩)⟩
  | succ n =>
    have hlt : n < F.cs.length := by omega
    have hc : F.cs[n]? = some F.cs[n] := List.getElem?_eq_getElem hlt
    obtain ⟨p, hp, ha, _⟩ := h.story.get hc
    have hm : ((F.cs[n]).v, (F.cs[n]).all) ∈ F.alls := List.mem_cons_of_mem _ (List.mem_map.2 ⟨_, List.getElem_mem hlt, rfl⟩)
    have e : F.a.after (n + 1) = (F.cs[n]).all := by
      rw [ha]
      unfold AF.after
      have hpl : n < F.a.puts.length := (List.getElem?_eq_some_iff.1 hp).1
      rw [List.take_succ_eq_append_getElem hpl, List.foldl_append]
      rw [List.getElem?_eq_getElem hpl] at hp
      rw [Option.some.inj hp]
      rfl
    refine ⟨(F.cs[n]).v, fun h => by omega, fun _ => ⟨_, hc, rfl⟩, ?_, fun g hg => .inr (.inr ⟨_, hm, hg⟩)⟩
    rw [e]
    exact h.all _ hm
theorem after_le (f : AF) (n : Nat) : f.left n 0 = (f.after n, f.settled || decide (0 < n)) := by
  unfold AF.left
  cases f.puts[n]? <;> simp
theorem left_none {f : AF} {n : Nat} {t : Int} (h : f.puts.length ≤ n) : f.left n t = (f.after n, f.settled || decide (0 < n)) := by
  unfold AF.left
  rw [List.getElem?_eq_none h]
theorem left_calm {f : AF} {n : Nat} {t : Int} (h : ¬ 0 < t) : f.left n t = (f.after n, f.settled || decide (0 < n)) := by
  unfold AF.left
  cases f.puts[n]? <;> simp [h]
/-- What a torn piece comes to. -/
theorem left_torn {f : AF} {n : Nat} {t : Int} {p : Pt} (hp : f.puts[n]? = some p) (ht : 0 < t) {all : Bs} {frm : Nat} (ha : all = app (f.after n) p) (hf : frm = if p.whole = true then 0 else (f.after n).length) :
    f.left n t = (if ((all.length - frm : Nat) : Int) / 8 < t then all else all.take (frm + 8 * t.toNat), true) ∧ frm ≤ all.length := by
  unfold AF.left
  rw [hp]
  have hlen : all.length - frm = p.s.length ∧ frm ≤ all.length := by
    subst ha hf
    unfold app
    split <;> simp
  simp only [ht, if_true]
  refine ⟨?_, hlen.2⟩
  rw [hlen.1]
  congr 1
  by_cases h : ((p.s.length : Nat) : Int) / 8 < t
  · rw [if_neg (by omega), if_pos h, ha, List.take_of_length_le (Nat.le_refl _)]
  · rw [if_pos (by omega), if_neg h, ha, hf]
    unfold app
    cases p.whole
    · simp only [Bool.false_eq_true, if_false]
      rw [List.take_append, List.take_of_length_le (l := f.after n) (by omega)]
      simp
    · simp
end Go.Dk
namespace Go.Proofs.YtoineobjmllicaaGreatDoor
open Go.RowKit Go.Dk
theorem loose_form {base : Nat} {w : World} {F : WF} (h : FileAt base w F) : ∃ a c, F.lv = .slice a F.cs.length c := by
  rcases h.loose.2 with ⟨e, h0⟩ | ⟨g, cap, cur, e, _⟩
  · exact ⟨none, 0, by rw [h0]; exact e⟩
  · exact ⟨_, _, e⟩
set_option maxHeartbeats 1000000 in
theorem fall_calm (base : Nat) (F : WF) (w : World) (h : FileAt base w F) (keep torn : Int) (hn : F.cs.length ≤ 1000000) (hc : ¬ (stays keep F.cs.length < F.cs.length ∧ 0 < torn)) :
    Calls Tryz.prog 48 #[.pointer (some ⟨F.blk, 0, none⟩), .int .i64 keep, .int .i64 torn] w fun e w' => e = .returned (.bool (F.a.settled || decide (0 < stays keep F.cs.length))) ∧ SettledTo base w w' F (F.a.after (stays keep F.cs.length)) := by
  obtain ⟨n, hst⟩ : ∃ n, stays keep F.cs.length = n := ⟨_, rfl⟩
  have hk : min (max keep 0) (F.cs.length : Int) = (n : Int) := by unfold stays at hst; omega
  have hnm : n ≤ F.cs.length := by unfold stays at hst; omega
  rw [hst] at hc ⊢
  clear hst
  obtain ⟨v, hv0, hv1, hrow, hown⟩ := h.upto hnm
  have HS : Hid (∀ w1 w', Below w.heap.size w w1 → w'.heap[F.blk]? = some (.cells #[.bool true, v, .slice none 0 0] 118 (0, 0)) → Tch (· = F.blk) w1 w' → SettledTo base w w' F (F.a.after n)) := fun w1 w' hb h1 h2 => settled_to h hb v _ hrow hown h1 h2
  have HF : Hid (w.heap[F.blk]? = some (.cells #[.bool F.a.settled, F.sv, F.lv] 118 (0, 0))) := h.row
  obtain ⟨c0, c1, c2, -⟩ := cells3 h.row
  have hform : ∃ a b c, v = .slice a b c := let ⟨a, c, e⟩ := hrow.form; ⟨a, _, c, e⟩
  have HT : Hid (∀ x y z w', w'.heap[F.blk]? = some (.cells #[x, y, z] 118 (0, 0)) → Calls Tryz.prog 62 #[.pointer (some ⟨F.blk, 0, none⟩), v] w' fun e w'' => e = .returned (.tuple #[]) ∧ w''.heap[F.blk]? = some (.cells #[.bool true, v, .slice none 0 0] 118 (0, 0)) ∧ Tch (· = F.blk) w' w'' ∧ w''.heap.size = w'.heap.size) := fun x y z w' hw => settle_any F.blk x y z v w' hw hform
  have ht : (decide (0 < torn) && decide ((n : Int) < (F.cs.length : Int))) = false := by
    by_cases h1 : 0 < torn
    · have : ¬ ((n : Int) < (F.cs.length : Int)) := fun e => hc ⟨by omega, h1⟩
      simp [this]
    · simp [h1]
  have HK := (show Hid _ from hk)
  clear hk
  by_cases h0 : n = 0
  · subst h0
    rw [hv0 rfl] at HS HT
    obtain ⟨a, c, hl⟩ := loose_form h
    rw [hl] at c2 HF
    clear h hv0 hv1 hrow hown hform hc
    generalize F.cs.length = m at *
    generalize F.blk = B at *
    generalize F.a.settled = st at *
    generalize F.sv = sv at *
    go_enter Tryz.func48, Tryz.ntmps48
    go_upto_region 1 with fail
    go_cut [1] (fun v wx => v = .int .i64 (0 : Nat) ∧ wx = w)
    case first =>
      have hK := HK.out
      go_wp2
      all_goals (go_meet; exact ⟨by congr 1 <;> omega, rfl⟩)
    case rest =>
      obtain ⟨rfl, rfl⟩ := hcut
      clear HK
      go_wp2
      go_quiet (fail)
      by_cases h1 : 0 < torn
      · have h2 : ¬ ((0 : Int) < (m : Int)) := fun e => by simp [h1] at ht; omega
        go_wp2_with (go_at_call 62; refine (HT.out _ _ _ _ (by exact HF.out)).mono ?_; rintro e w2 ⟨rfl, hr2, t2, -⟩)
        go_ret
        exact ⟨by simp, HS.out _ _ (Below.refl _ _) hr2 ⟨t2.os, t2.tape, t2.output, t2.size, t2.block⟩⟩
      · go_wp2_with (go_at_call 62; refine (HT.out _ _ _ _ (by exact HF.out)).mono ?_; rintro e w2 ⟨rfl, hr2, t2, -⟩)
        go_ret
        exact ⟨by simp, HS.out _ _ (Below.refl _ _) hr2 ⟨t2.os, t2.tape, t2.output, t2.size, t2.block⟩⟩
  · obtain ⟨k, rfl⟩ : ∃ k, n = k + 1 := ⟨n - 1, by omega⟩
    obtain ⟨pc, hpc, hv⟩ := hv1 (by omega)
    subst hv
    rw [Nat.add_sub_cancel] at hpc
    obtain ⟨g, cap, hl, hcap, hc0, -, -⟩ := h.piece hpc
    rw [hl] at c2 HF
    clear h hv0 hv1 hrow hown hform hc h0 hpc
    generalize pc.v = pv at *
    generalize F.cs.length = m at *
    generalize F.blk = B at *
    generalize F.a.settled = st at *
    generalize F.sv = sv at *
    go_enter Tryz.func48, Tryz.ntmps48
    go_upto_region 1 with fail
    go_cut [1] (fun v wx => v = .int .i64 (k + 1 : Nat) ∧ wx = w)
    case first =>
      have hK := HK.out
      go_wp2
      all_goals (go_meet; exact ⟨by congr 1 <;> omega, rfl⟩)
    case rest =>
      obtain ⟨rfl, rfl⟩ := hcut
      clear HK
      go_wp2
      go_quiet (fail)
      go_wp2
      go_quiet (fail)
      by_cases h1 : 0 < torn
      · have h2 : ¬ (((k + 1 : Nat) : Int) < (m : Int)) := fun e => by simp [h1] at ht; omega
        go_wp2_with (go_at_call 62; refine (HT.out _ _ _ _ (by exact HF.out)).mono ?_; rintro e w2 ⟨rfl, hr2, t2, -⟩)
        go_ret
        exact ⟨by simp, HS.out _ _ (Below.refl _ _) hr2 ⟨t2.os, t2.tape, t2.output, t2.size, t2.block⟩⟩
      · go_wp2_with (go_at_call 62; refine (HT.out _ _ _ _ (by exact HF.out)).mono ?_; rintro e w2 ⟨rfl, hr2, t2, -⟩)
        go_ret
        exact ⟨by simp, HS.out _ _ (Below.refl _ _) hr2 ⟨t2.os, t2.tape, t2.output, t2.size, t2.block⟩⟩
set_option maxHeartbeats 1000000 in
theorem fall_torn (base : Nat) (F : WF) (w : World) (h : FileAt base w F) (keep torn : Int) (hn : F.cs.length ≤ 1000000) (hbig : ∀ c ∈ F.cs, c.all.length ≤ 1000000000) (hlt : stays keep F.cs.length < F.cs.length) (ht : 0 < torn) :
    Calls Tryz.prog 48 #[.pointer (some ⟨F.blk, 0, none⟩), .int .i64 keep, .int .i64 torn] w fun e w' => e = .returned (.bool true) ∧ SettledTo base w w' F (F.a.left (stays keep F.cs.length) torn).1 := by
  obtain ⟨n, hst⟩ : ∃ n, stays keep F.cs.length = n := ⟨_, rfl⟩
  have hk : min (max keep 0) (F.cs.length : Int) = (n : Int) := by unfold stays at hst; omega
  rw [hst] at hlt ⊢
  clear hst
  have hnm : n ≤ F.cs.length := by omega
  obtain ⟨pn, hpn⟩ : ∃ c, F.cs[n]? = some c := ⟨_, List.getElem?_eq_getElem hlt⟩
  obtain ⟨p, hp, hall, hfrm⟩ := h.story.get hpn
  obtain ⟨hleft, hfl⟩ := left_torn (f := F.a) (n := n) (t := torn) hp ht hall hfrm
  have hmem : (pn.v, pn.all) ∈ F.alls := List.mem_cons_of_mem _ (List.mem_map.2 ⟨pn, List.mem_of_getElem? hpn, rfl⟩)
  have hrow := h.all _ hmem
  have hpb := hbig pn (List.mem_of_getElem? hpn)
  obtain ⟨g, cap, hl, hcap, hc0, hc1, -⟩ := h.piece hpn
  obtain ⟨pa, pcap, hpv⟩ := hrow.form
  simp only at hpv
  have hfoot : ∀ b, pn.v.ownBlock = some b → F.foot b := fun b hb => .inr (.inr ⟨_, hmem, hb⟩)
  obtain ⟨r, hr1, hr2, hr3, hr4⟩ : ∃ r, Row base w r (F.a.left n torn).1 ∧ (∃ a b c, r = .slice a b c) ∧ (∀ b, r.ownBlock = some b → F.foot b) ∧ ∀ w, Calls Tryz.prog 79 #[.agg #[.slice pa pn.all.length pcap, .int .i64 pn.frm], .int .i64 torn] w fun e w' => e = .returned r ∧ Below w.heap.size w w' := by
    rw [hleft]
    by_cases hc : ((pn.all.length - pn.frm : Nat) : Int) / 8 < torn
    · refine ⟨pn.v, by rw [if_pos hc]; exact hrow, ⟨_, _, _, hpv⟩, hfoot, fun w => ?_⟩
      rw [hpv]
      exact torn_all pa _ pcap _ torn w hfl hpb hc
    · rcases hrow.2 with ⟨e0, h0⟩ | ⟨g', cap', cur, e1, e2, e3, e4, _⟩
      · simp only at h0
        rw [h0] at hc
        simp at hc
        omega
      · simp only at e1 e4
        rw [hpv] at e1
        cases e1
        have hsz : pn.frm + 8 * torn.toNat ≤ pn.all.length := by omega
        rw [if_neg hc]
        refine ⟨.slice (some ⟨g', 0, none⟩) (pn.frm + 8 * torn.toNat) pcap, ?_, ⟨_, _, _, rfl⟩, fun b hb => hfoot b ?_, fun w => torn_some g' _ pcap _ torn w hfl hpb e4 ht hc⟩
        · have := hrow
          simp only at this
          rw [hpv] at this
          exact this.take _ hsz
        · rw [hpv]; exact hb
  have HS : Hid (∀ w1 w', Below w.heap.size w w1 → w'.heap[F.blk]? = some (.cells #[.bool true, r, .slice none 0 0] 118 (0, 0)) → Tch (· = F.blk) w1 w' → SettledTo base w w' F (F.a.left n torn).1) := fun w1 w' hb h1 h2 => settled_to h hb r _ hr1 hr3 h1 h2
  have HF : Hid (w.heap[F.blk]? = some (.cells #[.bool F.a.settled, F.sv, F.lv] 118 (0, 0))) := h.row
  have HT : Hid (∀ x y z w', w'.heap[F.blk]? = some (.cells #[x, y, z] 118 (0, 0)) → Calls Tryz.prog 62 #[.pointer (some ⟨F.blk, 0, none⟩), r] w' fun e w'' => e = .returned (.tuple #[]) ∧ w''.heap[F.blk]? = some (.cells #[.bool true, r, .slice none 0 0] 118 (0, 0)) ∧ Tch (· = F.blk) w' w'' ∧ w''.heap.size = w'.heap.size) := fun x y z w' hw => settle_any F.blk x y z r w' hw hr2
  have HTN := (show Hid _ from hr4)
  have hB : F.blk < w.heap.size := block_lt h.row
  obtain ⟨c0, c1, c2, -⟩ := cells3 h.row
  have HK := (show Hid _ from hk)
  rw [hpv] at hc0
  rw [hl] at c2 HF
  by_cases h0 : n = 0
  · subst h0
    simp only [Nat.zero_mul, Nat.zero_add] at hc0 hc1
    clear h hk hpn hp hall hfrm hleft hmem hrow hfoot hr1 hr2 hr3 hr4 hl hbig hpv hfl hpb
    generalize pn.all.length = pl at *
    generalize pn.frm = pf at *
    generalize F.cs.length = m at *
    generalize F.blk = B at *
    generalize F.a.settled = st at *
    generalize F.sv = sv at *
    go_enter Tryz.func48, Tryz.ntmps48
    go_upto_region 1 with fail
    go_cut [1] (fun v wx => v = .int .i64 (0 : Nat) ∧ wx = w)
    case first =>
      have hK := HK.out
      go_wp2
      all_goals (go_meet; exact ⟨by congr 1 <;> omega, rfl⟩)
    case rest =>
      obtain ⟨rfl, rfl⟩ := hcut
      clear HK
      go_wp2
      go_quiet (fail)
      go_wp2_with (first
        | (go_at_call 79; refine (HTN.out _).mono ?_; rintro e w1 ⟨rfl, k1⟩)
        | (go_at_call 62; refine (HT.out _ _ _ _ (by exact (k1.block B hB).trans HF.out)).mono ?_; rintro e w2 ⟨rfl, hr2, t2, -⟩))
      go_ret
      exact ⟨rfl, HS.out _ _ ⟨k1.os, k1.tape, k1.output, k1.size, k1.block⟩ hr2 t2⟩
  · obtain ⟨k, rfl⟩ : ∃ k, n = k + 1 := ⟨n - 1, by omega⟩
    have hpk : F.cs[k]? = some F.cs[k] := List.getElem?_eq_getElem (by omega)
    obtain ⟨g', cap', hl', -, hd0, -, -⟩ := h.piece hpk
    rw [hl] at hl'
    cases hl'
    generalize (F.cs[k]).v = qv at *
    clear h hk hpn hp hall hfrm hleft hmem hrow hfoot hr1 hr2 hr3 hr4 hl hbig hpv h0 hpk hfl hpb
    generalize pn.all.length = pl at *
    generalize pn.frm = pf at *
    generalize F.cs.length = m at *
    generalize F.blk = B at *
    generalize F.a.settled = st at *
    generalize F.sv = sv at *
    go_enter Tryz.func48, Tryz.ntmps48
    go_upto_region 1 with fail
    go_cut [1] (fun v wx => v = .int .i64 (k + 1 : Nat) ∧ wx = w)
    case first =>
      have hK := HK.out
      go_wp2
      all_goals (go_meet; exact ⟨by congr 1 <;> omega, rfl⟩)
    case rest =>
      obtain ⟨rfl, rfl⟩ := hcut
      clear HK
      go_wp2
      go_quiet (fail)
      go_wp2
      go_quiet (fail)
      go_wp2_with (first
        | (go_at_call 79; refine (HTN.out _).mono ?_; rintro e w1 ⟨rfl, k1⟩)
        | (go_at_call 62; refine (HT.out _ _ _ _ (by exact (k1.block B hB).trans HF.out)).mono ?_; rintro e w2 ⟨rfl, hr2, t2, -⟩))
      go_ret
      exact ⟨rfl, HS.out _ _ ⟨k1.os, k1.tape, k1.output, k1.size, k1.block⟩ hr2 t2⟩
/-- What a loss of power leaves of a file. -/
theorem fall_any (base : Nat) (F : WF) (w : World) (h : FileAt base w F) (keep torn : Int) (hn : F.cs.length ≤ 1000000) (hbig : ∀ c ∈ F.cs, c.all.length ≤ 1000000000) :
    Calls Tryz.prog 48 #[.pointer (some ⟨F.blk, 0, none⟩), .int .i64 keep, .int .i64 torn] w fun e w' => e = .returned (.bool (F.a.there keep torn)) ∧ SettledTo base w w' F (F.a.left (stays keep F.a.puts.length) torn).1 := by
  unfold AF.there
  have hlen := h.story.length
  rw [← hlen]
  by_cases hc : stays keep F.cs.length < F.cs.length ∧ 0 < torn
  · have h1 := fall_torn base F w h keep torn hn hbig hc.1 hc.2
    obtain ⟨pn, hpn⟩ : ∃ c, F.cs[stays keep F.cs.length]? = some c := ⟨_, List.getElem?_eq_getElem hc.1⟩
    obtain ⟨p, hp, hall, hfrm⟩ := h.story.get hpn
    obtain ⟨hleft, -⟩ := left_torn (f := F.a) (t := torn) hp hc.2 hall hfrm
    have : (F.a.left (stays keep F.cs.length) torn).2 = true := by rw [hleft]
    rw [this]
    exact h1
  · have h1 := fall_calm base F w h keep torn hn hc
    have : F.a.left (stays keep F.cs.length) torn = (F.a.after (stays keep F.cs.length), F.a.settled || decide (0 < stays keep F.cs.length)) := by
      by_cases h2 : 0 < torn
      · exact left_none (by have : ¬ stays keep F.cs.length < F.cs.length := fun e => hc ⟨e, h2⟩
                            omega)
      · exact left_calm h2
    rw [this]
    exact h1
end Go.Proofs.YtoineobjmllicaaGreatDoor
