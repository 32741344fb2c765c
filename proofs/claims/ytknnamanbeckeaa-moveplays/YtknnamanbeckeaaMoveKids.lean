/- Contracts: the things below one, where there is at most one. -/
import Derived.Test.YtknnamanbeckeaaMoveTw
import Derived.Test.YtknnamanbeckeaaRowsAll
namespace Go.Mov
open Go.RowKit Go.MapInt Go.MapFun
/-- How many of some stand below a number. -/
def cntK (l : List (Int × Th)) (k : Int) : Nat := (l.filter fun x => decide (x.2.par = k)).length
theorem cntK_cut {l : List (Int × Th)} (hn : (l.map (·.1)).Nodup) {s : Int} {x : Th} (h : (s, x) ∈ l) (k : Int) : cntK l k = cntK (cut l s) k + if x.par = k then 1 else 0 := by
  induction l with
  | nil => cases h
  | cons y l ih =>
    simp only [List.map_cons, List.nodup_cons] at hn
    rcases List.mem_cons.1 h with e | h
    · subst e
      have e1 : cut ((s, x) :: l) s = l := by
        unfold cut
        rw [List.filter_cons_of_neg (by simp)]
        refine List.filter_eq_self.2 fun z hz => ?_
        have : z.1 ≠ s := fun e => hn.1 (List.mem_map.2 ⟨z, hz, e⟩)
        simpa using this
      rw [e1]
      unfold cntK
      rw [List.filter_cons]
      by_cases ha : x.par = k <;> simp [ha]
    · have hne : y.1 ≠ s := fun e => hn.1 (e ▸ List.mem_map.2 ⟨_, h, rfl⟩)
      have e1 : cut (y :: l) s = y :: cut l s := by unfold cut; rw [List.filter_cons_of_pos (by simp [hne])]
      have := ih hn.2 h
      rw [e1]
      unfold cntK at this ⊢
      simp only [List.filter_cons]
      by_cases ha : y.2.par = k <;> simp [ha] <;> omega
/-- The things below a number. -/
def kidsOf (t : Ths) (k : Int) : Ths := t.filter fun x => decide (x.par = k)
theorem cntK_pr (t : Ths) (k : Int) : cntK (t.map pr) k = (kidsOf t k).length := by
  unfold cntK kidsOf
  rw [List.filter_map, List.length_map]
  rfl
/-- While a map is gone over: the iterator's block r. -/
structure OvI (P : Program) (kt : Nat) (b r : Nat) (l todo : List (Int × Th)) (w0 w : World) : Prop where
  rng : RngL P kt thE w b r l todo
  below : Below w0.heap.size w0 w
  hr : w0.heap.size ≤ r
theorem OvI.step {P : Program} {kt b r : Nat} {l todo : List (Int × Th)} {w0 w w' : World} (h : OvI P kt b r l todo w0 w) (k : Below w.heap.size w w') : OvI P kt b r l todo w0 w' ∧ w'.rangeLeft b r = w.rangeLeft b r :=
  ⟨⟨h.rng.below k, h.below.trans (k.mono h.below.size), h.hr⟩, rangeLeft_kept (k.block _ h.rng.lt.1) (k.block _ h.rng.lt.2)⟩
theorem OvI.next {P : Program} {kt b r : Nat} {l todo todo' : List (Int × Th)} {w0 w w' : World} (h : OvI P kt b r l todo w0 w) (hg : w.grownBy w' (some r)) (hr : RngL P kt thE w' b r l todo') : OvI P kt b r l todo' w0 w' :=
  ⟨hr, h.below.grown hg h.below.size (fun k e => by cases e; exact h.hr), h.hr⟩
end Go.Mov
namespace Go.Proofs.Ytknnamanbeckeaa
open Go.RowKit Go.Opn Go.Stamp Go.MapInt Go.Mov Go.Shelf Go.Rws
attribute [local go_sem] Oper.semAt_some
set_option maxRecDepth 100000 in
set_option maxHeartbeats 1000000 in
theorem lenBits64_any (x : Nat) (w : World) (hx2 : x < 256) :
    Calls Try.prog 74 #[.int .u64 x] w fun e w' => ∃ k, e = .returned (.int .i64 k) ∧ w' = w := by
  have hx3 : (x : Int) < 256 := by omega
  have hx0 : (0 : Int) ≤ x := by omega
  go_enter Try.func74, Try.ntmps74
  have hc1 : ¬ ((4294967296 : Int) ≤ x) := by omega
  have hc2 : ¬ ((65536 : Int) ≤ x) := by omega
  have hc3 : ¬ ((256 : Int) ≤ x) := by omega
  iterate 21 go_step
  refine wp_cond_split rfl (fun h => (by cases h)) (fun _ => ?_)
  iterate 62 go_step
  go_ret
  exact ⟨_, rfl, rfl⟩
set_option maxRecDepth 100000 in
theorem lenBits_any (x : Nat) (w : World) (hx2 : x < 256) :
    Calls Try.prog 59 #[.int .u64 x] w fun e w' => ∃ k, e = .returned (.int .i64 k) ∧ w' = w := by
  have H := hide (lenBits64_any x w hx2)
  go_enter Try.func59, Try.ntmps59
  go_wp2_with (go_at_call 74; refine H.out.mono ?_; rintro e w' ⟨k, rfl, hw⟩; subst hw)
  go_ret
  exact ⟨_, rfl, rfl⟩
set_option maxRecDepth 100000 in
theorem insSort_few (a : Option Addr) (n c : Nat) (w : World) (hn : n ≤ 1) :
    Calls Try.prog 64 #[.slice a n c, .int .i64 0, .int .i64 n] w fun e w' => (∃ v, e = .returned v) ∧ w' = w := by
  have h1 : ¬ (1 : Int) < n := by omega
  go_enter Try.func64, Try.ntmps64
  go_wp2_with fail
  go_loopw [6] (fun v6 wr => v6 = .int .i64 1 ∧ wr = w) (fun _ _ => 0)
  case atStart => exact ⟨rfl, rfl⟩
  case round =>
    obtain ⟨rfl, rfl⟩ := hrel
    go_wp2_with fail
    go_end0
    exact ⟨⟨_, rfl⟩, rfl⟩
set_option maxRecDepth 100000 in
theorem pdq_few (a : Option Addr) (n c : Nat) (k : Int) (w : World) (hn : n ≤ 1) :
    Calls Try.prog 58 #[.slice a n c, .int .i64 0, .int .i64 n, .int .i64 k] w fun e w' => (∃ v, e = .returned v) ∧ w' = w := by
  have H := hide (insSort_few a n c w hn)
  have h1 : (n : Int) ≤ 12 := by omega
  have h0 : (0 : Int) ≤ n := by omega
  go_enter Try.func58, Try.ntmps58
  go_wp2_with fail
  go_loopw [1, 2] (fun v1 v2 wr => v1 = .int .i64 0 ∧ v2 = .int .i64 n ∧ wr = w) (fun _ _ _ => 0)
  case atStart => exact ⟨rfl, rfl, rfl⟩
  case round =>
    obtain ⟨rfl, rfl, rfl⟩ := hrel
    go_wp2_with (go_at_call 64; refine H.out.mono ?_; rintro e w' ⟨⟨v, rfl⟩, rfl⟩; clear H)
    refine bodyPost_ret (results_none rfl _ _ _) rfl ?_
    exact ⟨⟨_, rfl⟩, rfl⟩
set_option maxRecDepth 100000 in
theorem sort_few (a : Option Addr) (n c : Nat) (w : World) (hn : n ≤ 1) :
    Calls Try.prog 44 #[.slice a n c] w fun e w' => (∃ v, e = .returned v) ∧ w' = w := by
  have H := hide (fun k => pdq_few a n c k w hn)
  have HL := hide (lenBits_any n w (by omega))
  have h0 : (0 : Int) ≤ n := by omega
  have h1 : (n : Int) ≤ 1 := by omega
  go_enter Try.func44, Try.ntmps44
  go_wp2_with (first
    | (go_at_call 59; refine HL.out.mono ?_; rintro e w' ⟨k, rfl, rfl⟩; clear HL)
    | (go_at_call 58; refine (H.out _).mono ?_; rintro e w' ⟨⟨v, rfl⟩, rfl⟩; clear H))
  go_end0
  exact ⟨⟨_, rfl⟩, rfl⟩
theorem infoU64 : (Try.prog.info? 30).map (fun i => (i.zero, i.size, i.bytes)) = some (some (.int .u64 0), 1, 8) := by kernel_rfl
set_option maxRecDepth 100000 in
set_option maxHeartbeats 2000000 in
theorem kids_few {b m : Nat} {t : Ths} (k : Int) (w : World) (h : ThsAt Try.prog 30 b (some m) t w) (hc : (kidsOf t k).length ≤ 1) :
    Calls Try.prog 29 #[.pointer (some ⟨b, 0, none⟩), .int .u64 k] w fun e w' => (∃ a c, e = .returned (.slice a (kidsOf t k).length c)) ∧ Below w.heap.size w w' := by
  have c0 := h.cell
  have hM : MapL Try.prog 30 thE w m (t.map pr) := by
    rcases h.map with ⟨h1, _⟩ | ⟨b', h1, h2⟩
    · cases h1
    · cases h1; exact h2
  obtain ⟨w1, hrange, hr1, hb1, hs1⟩ := hM.range u64Key thMap
  obtain ⟨N, hN⟩ : ∃ N, N = (kidsOf t k).length := ⟨_, rfl⟩
  have HE := hide (cntK_pr t k)
  rw [← hN] at HE hc ⊢
  obtain ⟨tinfo, hti, htz, hts, htb⟩ := info_of infoU64
  have HTI := hide (And.intro hti (And.intro htz (And.intro hts htb)))
  have G1 := hide (OvI.mk hr1 hb1 (Nat.le_refl _))
  have HS := hide (fun a n c (hn : n ≤ 1) v => sort_few a n c v hn)
  clear hr1 hb1 hs1 hM h hN hti htz hts htb
  go_enter Try.func29, Try.ntmps29
  go_wp2_with fail
  go_loopw [5] (fun v5 wr => ∃ (n : Nat) (a : Option Addr) (c : Nat), v5 = .slice a n c ∧ (n = 0 → a = none ∧ c = 0) ∧ Hid (∃ todo, OvI Try.prog 30 m w.heap.size (t.map pr) todo w wr ∧ n + cntK todo k = N)) (fun _ wr => wr.rangeLeft m w.heap.size)
  case atStart => exact ⟨0, none, 0, rfl, fun _ => ⟨rfl, rfl⟩, _, G1.out, by rw [Nat.zero_add]; exact HE.out⟩
  case round =>
    obtain ⟨n, a, c, rfl, hna, todo, hG, hm⟩ := hrel
    have G := hide hG
    rcases hG.rng.next u64Key 0 with ⟨rfl, hn⟩ | ⟨s, x, w2, hmem, hsz, hn, hr2, hgr2, hz2, hen, hless⟩
    · clear hG
      obtain rfl : n = N := by have : cntK [] k = 0 := rfl; omega
      have HSn := hide (HS.out a n c hc)
      go_wp2_with (go_at_call 44; refine (HSn.out _).mono ?_; rintro e w' ⟨⟨v, rfl⟩, rfl⟩; clear HSn)
      go_ret
      exact ⟨⟨_, _, rfl⟩, G.out.below⟩
    · obtain ⟨xi, xp, xn, xd, xg, xz⟩ := x
      have hv : thE.v ⟨xi, xp, xn, xd, xg, xz⟩ = .agg #[.int .u64 xi, .int .u64 xp, .string xn, .bool xd, .string xg, .int .i64 xz] := rfl
      rw [hv] at hn hen
      have hcnt := cntK_cut hG.rng.1 hmem k
      have G2 := hide (hG.next hgr2 hr2)
      have HM := hide (And.intro hm hcnt)
      have G3 := hide (And.intro (G2.out.step ((Below.refl _ w2).alloc (Nat.le_refl _) (.cells #[.int .u64 xi, .int .u64 xp, .string xn, .bool xd, .string xg, .int .i64 xz] 61))) hless)
      clear hG hr2 hgr2 hz2 G hmem hsz hv hless G1 hm hcnt
      by_cases ha : xp = k
      · have hn0 : n = 0 := by have h1 := HM.out.1; have h2 := HM.out.2; rw [if_pos ha] at h2; omega
        obtain ⟨rfl, rfl⟩ := hna hn0
        subst hn0
        subst ha
        have hzz : w.heap.size ≤ w2.heap.size := G2.out.below.size
        go_wp2_with fail
        go_roundw
        case rel =>
          refine ⟨1, _, _, rfl, (fun h => by cases h), cut todo s, (G2.out.step ?_).1, by have h1 := HM.out.1; have h2 := HM.out.2; rw [if_pos rfl] at h2; omega⟩
          exact ((((Below.refl _ w2).alloc (Nat.le_refl _) _).alloc (by simp) _).alloc (by simp; omega) _).drew
        case measure =>
          rw [(G2.out.step ((((Below.refl _ w2).alloc (Nat.le_refl _) _).alloc (by simp) _).alloc (by simp; omega) _).drew).2]
          exact G3.out.2
      · have hpk : (xp == k) = false := by simpa using ha
        go_wp2_with fail
        go_roundw
        case rel => exact ⟨n, a, c, rfl, hna, cut todo s, G3.out.1.1, by have h1 := HM.out.1; have h2 := HM.out.2; rw [if_neg ha] at h2; omega⟩
        case measure => rw [G3.out.1.2]; exact G3.out.2
end Go.Proofs.Ytknnamanbeckeaa
