/- Contract: how many steps up a thing stands. -/
import Derived.Test.YtohdadjknefjcaaMoveTw
namespace Go.Mov
open Go.RowKit
/-- How many steps up to the root or the trash; -1: there is none. -/
def deepIn : List Int → Nat → Int
  | [], _ => -1
  | y :: r, n => if top y then n else deepIn r (n + 1)
theorem deepIn_none : ∀ (l : List Int) (n : Nat), (∀ y ∈ l, top y = false) → deepIn l n = -1
  | [], _, _ => rfl
  | y :: r, n, h => by unfold deepIn; rw [h y (by simp)]; exact deepIn_none r (n + 1) fun z hz => h z (by simp [hz])
theorem deepIn_some : ∀ (l : List Int) (y : Int) (r : List Int) (n : Nat), (∀ z ∈ l, top z = false) → top y = true → deepIn (l ++ y :: r) n = n + l.length
  | [], y, r, n, _, h => by show (if top y then (n : Int) else _) = _; rw [h]; simp
  | x :: l, y, r, n, h1, h2 => by
    show (if top x then (n : Int) else deepIn (l ++ y :: r) (n + 1)) = _
    rw [h1 x (by simp), if_neg (by decide), deepIn_some l y r (n + 1) (fun z hz => h1 z (by simp [hz])) h2, List.length_cons]
    omega
end Go.Mov
namespace Go.Proofs.Ytohdadjknefjcaa
open Go.RowKit Go.Opn Go.Stamp Go.MapInt Go.Mov Go.Shelf
attribute [local go_sem] Oper.semAt_some
theorem way_length (t : Ths) (k : Int) : (way t k).length ≤ t.length + 1 := by
  unfold way
  suffices h : ∀ n k, (wayUp n t k).length ≤ n + 1 from h _ _
  intro n
  induction n with
  | zero => intro k; simp [wayUp]
  | succ n ih =>
    intro k
    unfold wayUp
    split
    · have := ih (by assumption : Th).par; rw [List.length_cons]; omega
    · simp
/-- All blocks below n stand, but s. -/
def Kps (n s : Nat) (W W' : World) : Prop := W.heap.size ≤ W'.heap.size ∧ ∀ i, i < n → i ≠ s → W'.heap[i]? = W.heap[i]?
theorem Kps.trans {n s : Nat} {A B C : World} (h : Kps n s A B) (k : Kps n s B C) : Kps n s A C := ⟨Nat.le_trans h.1 k.1, fun i h1 h2 => (k.2 i h1 h2).trans (h.2 i h1 h2)⟩
theorem Kps.mono {n m s : Nat} {A B : World} (h : Kps n s A B) (hm : m ≤ n) : Kps m s A B := ⟨h.1, fun i h1 h2 => h.2 i (Nat.lt_of_lt_of_le h1 hm) h2⟩
theorem Kps.of {n s : Nat} {A B : World} (h : Below n A B) : Kps n s A B := ⟨h.size, fun i h1 _ => h.block i h1⟩
theorem cell_of_same {w w' : World} {b i : Nat} (h : w'.heap[b]? = w.heap[b]?) : w'.cell? ⟨b, i, none⟩ = w.cell? ⟨b, i, none⟩ := by unfold World.cell?; dsimp only; rw [h]
theorem Kps.ths {s b : Nat} {mb : Option Nat} {t : Ths} {A B : World} (h : Kps A.heap.size s A B) (k : ThsAt Try.prog 30 b mb t A) (h1 : b ≠ s) (h2 : mb ≠ some s) : ThsAt Try.prog 30 b mb t B :=
  ⟨(cell_of_same (h.2 b k.lt h1)).trans k.cell, k.map.kept fun m hm => h.2 m (k.map.lt hm) fun e => h2 (e ▸ hm)⟩
set_option maxHeartbeats 4000000 in
set_option maxRecDepth 100000 in
theorem up_inS {b : Nat} {mb : Option Nat} {t : Ths} (k : Int) (b1 b2 m n0 : Nat) (w0 : World) (h : ThsAt Try.prog 30 b mb t w0) (hf : Fine t) (hk : Num k) (h1 : w0.cell? ⟨b1, 0, none⟩ = some (.int .u64 k)) (h2 : w0.cell? ⟨b2, 0, none⟩ = some (.pointer (some ⟨b, 0, none⟩))) (hn0 : w0.heap.size ≤ n0) (s : Nat) (hs : b ≠ s ∧ mb ≠ some s ∧ b1 ≠ s ∧ b2 ≠ s) :
    SeqStopsK Fence.wide m Try.prog 64 #[.pointer (some ⟨b1, 0, none⟩), .pointer (some ⟨b2, 0, none⟩)] (fun x : U64 => #[.int .u64 x.1]) (Kps n0 s) (fun xs => xs.map (·.1) = way t k) (fun pre => pre.map (·.1) <+: way t k) (way t k).length w0 := by
  intro l J Jx W hW hJ hJx hY h0
  refine callsIn_of_wp Try.func64 rfl trivial ?_ rfl
  simp only [Try.ntmps64, List.size_toArray, List.length_cons, List.length_nil, Nat.reduceAdd, Nat.reduceSub, Array.replicate_succ, Array.replicate_zero, List.push_toArray, List.append_toArray, List.nil_append, List.cons_append]
  have hb1 : W.cell? ⟨b1, 0, none⟩ = some (.int .u64 k) := (hW.cell (p := ⟨b1, 0, none⟩) (cell_lt h1)).trans h1
  have HY := hide hY
  have H0 := hide h0
  have HW := hide hW
  have HJ := hide hJ
  have HF := hide hf
  have HT := hide h
  have H2 := hide h2
  have HN := hide (And.intro hn0 hs)
  clear hY h0 h1 hW hJ hJx hf h h2 hn0 hs
  gi_wp2_with fail
  gi_loopw [4] (fun vs wr => ∃ (j : U64) (pre : List U64), vs = .int .u64 j.1 ∧ Hid (pre.map (·.1) ++ way t j.1 = way t k ∧ J pre wr ∧ Kps w0.heap.size s w0 wr ∧ W.heap.size ≤ wr.heap.size)) (fun vs _ => match vs with | .int .u64 j => (way t j).length | _ => 0)
  case atStart => exact ⟨⟨k, hk⟩, [], rfl, rfl, H0.out, Kps.of HW.out, Nat.le_refl _⟩
  case round =>
    obtain ⟨j, pre, rfl, HP⟩ := hrel
    clear H0
    have hpl : pre.length < (way t k).length := by
      have := congrArg List.length HP.out.1
      rw [List.length_append, List.length_map] at this
      have h2 : 0 < (way t j.1).length := by
        cases hx : Mov.look t j.1 with
        | none => rw [way_end hx]; simp
        | some x => rw [way_step HF.out hx]; simp
      omega
    obtain ⟨fn, tmps, assign, body, hy, hR⟩ := HY.out pre j wr HP.out.2.1 hpl
    gi_wp2_with fail
    refine ⟨fun h => (by cases h), hR.mono ?_⟩
    rintro e W3 (⟨rfl, hJ3, hk3⟩ | ⟨rfl, hJx3⟩)
    · have HG := hide hJ3
      have hB : Kps w0.heap.size s w0 W3 := HP.out.2.2.1.trans (hk3.mono HN.out.1)
      have hT := hB.ths HT.out HN.out.2.1 HN.out.2.2.1
      have c0 := hT.cell
      have c2 : W3.cell? ⟨b2, 0, none⟩ = some (.pointer (some ⟨b, 0, none⟩)) := (cell_of_same (hB.2 b2 (cell_lt H2.out) HN.out.2.2.2.2)).trans H2.out
      have hl := look_two hT j.1 j.2
      have HB := hide hB
      have hs3 : W.heap.size ≤ W3.heap.size := Nat.le_trans HP.out.2.2.2 hk3.1
      clear hJ3 hk3 hR hy hT hB
      cases hx : Mov.look t j.1 with
      | none =>
        rw [hx] at hl
        unfold gotT Th.v Th.zero at hl
        dsimp only at hl
        gi_wp2_with fail
        refine bodyPost_ret (results_none rfl _ _ _) rfl ?_
        have := HP.out.1
        rw [way_end hx] at this
        refine ⟨⟨_, rfl⟩, .inl ⟨pre ++ [j], by simpa using this, ?_⟩⟩
        exact HJ.out _ _ _ none HG.out (grown_of ((Below.refl _ W3).alloc (Nat.le_refl _) _)) (fun r e => by cases e)
      | some x =>
        rw [hx] at hl
        unfold gotT Th.v at hl
        dsimp only at hl
        have hxp := (HF.out.fits x (look_mem hx).1).par
        have hst := hide (way_step HF.out hx)
        gi_wp2_with fail
        go_roundw
        case rel =>
          refine ⟨⟨x.par, hxp⟩, pre ++ [j], rfl, ?_, HJ.out _ _ _ none HG.out (grown_of ((Below.refl _ W3).alloc (Nat.le_refl _) _)) (fun r e => by cases e), HB.out.trans (Kps.of ((Below.refl _ W3).alloc (Nat.le_refl _) _) |>.mono HB.out.1), by simp; omega⟩
          have := HP.out.1
          rw [hst.out] at this
          simpa using this
        case measure =>
          show (way t x.par).length < (way t j.1).length
          rw [hst.out]; simp
    · clear hR hy
      gi_wp2_with fail
      go_end0
      refine ⟨⟨_, rfl⟩, .inr ⟨pre ++ [j], ?_, hJx3⟩⟩
      rw [← HP.out.1]
      cases hx : Mov.look t j.1 with
      | none => rw [way_end hx]; simp
      | some x => rw [way_step HF.out hx]; exact ⟨way t x.par, by simp⟩
set_option maxHeartbeats 4000000 in
set_option maxRecDepth 100000 in
theorem deep_any {b : Nat} {mb : Option Nat} {t : Ths} (k : Int) (w : World) (h : ThsAt Try.prog 30 b mb t w) (hf : Fine t) (hk : Num k) (hl : t.length ≤ 1000000) :
    Calls Try.prog 29 #[.pointer (some ⟨b, 0, none⟩), .int .u64 k] w fun e w' => e = .returned (.int .i64 (deepIn (way t k) 0)) ∧ Below w.heap.size w w' := by
  refine (callsIn_wide (n := 9)).1 ?_
  refine callsIn_of_wp_marks Try.func29 rfl trivial ?_ rfl
  simp only [Try.ntmps29, List.size_toArray, List.length_cons, List.length_nil, Nat.reduceAdd, Nat.reduceSub, Array.replicate_succ, Array.replicate_zero, List.push_toArray, List.append_toArray, List.nil_append, List.cons_append]
  have HT := hide h
  have HF := hide hf
  have hwl := way_length t k
  clear h hf
  gi_wp2_with (refine ⟨trivial, ?_⟩; gi_at_call 45; refine (callsIn_wide.2 (up_any b k _)).mono ?_; rintro e w1 ⟨rfl, rfl⟩)
  obtain ⟨W0, hW0⟩ : ∃ W0, (((w.alloc (.cells #[.int .i64 0] 3)).alloc (.cells #[.int .i64 0] 3)).alloc (.cells #[.pointer (some ⟨b, 0, none⟩)] 23)).alloc (.cells #[.int .u64 k] 30) = W0 := ⟨_, rfl⟩
  have hs0 : W0.heap.size = w.heap.size + 4 := by rw [← hW0]; simp
  have kB : Below w.heap.size w W0 := by rw [← hW0]; exact ((((Below.refl _ w).alloc (Nat.le_refl _) _).alloc (by simp) _).alloc (by simp; omega) _).alloc (by simp; omega) _
  have b0 : Boxed W0 w.heap.size 3 (.int .i64 0) := by rw [← hW0]; exact (((Boxed.new w 3 _).alloc _).alloc _).alloc _
  have b1 : Boxed W0 (w.heap.size + 1) 3 (.int .i64 0) := by
    rw [← hW0]
    have := (((Boxed.new (w.alloc (.cells #[.int .i64 0] 3)) 3 (.int .i64 0)).alloc (.cells #[.pointer (some ⟨b, 0, none⟩)] 23)).alloc (.cells #[.int .u64 k] 30))
    rwa [World.size_alloc] at this
  have b2 : Boxed W0 (w.heap.size + 1 + 1) 23 (.pointer (some ⟨b, 0, none⟩)) := by
    rw [← hW0]
    have := ((Boxed.new ((w.alloc (.cells #[.int .i64 0] 3)).alloc (.cells #[.int .i64 0] 3)) 23 (.pointer (some ⟨b, 0, none⟩))).alloc (.cells #[.int .u64 k] 30))
    rwa [World.size_alloc, World.size_alloc] at this
  have b3 : Boxed W0 (w.heap.size + 1 + 1 + 1) 30 (.int .u64 k) := by
    rw [← hW0]
    have := (Boxed.new (((w.alloc (.cells #[.int .i64 0] 3)).alloc (.cells #[.int .i64 0] 3)).alloc (.cells #[.pointer (some ⟨b, 0, none⟩)] 23)) 30 (.int .u64 k))
    rwa [World.size_alloc, World.size_alloc, World.size_alloc] at this
  rw [hW0]
  clear hW0
  refine wpIn_rangeFunc_ownF rfl (by decide) (gf := 64) (lb := #[.pointer (some ⟨w.heap.size + 1 + 1 + 1, 0, none⟩), .pointer (some ⟨w.heap.size + 1 + 1, 0, none⟩)]) rfl trivial (enters_of Try.func64 (by kernel_rfl) rfl)
    (up_inS k (w.heap.size + 1 + 1 + 1) (w.heap.size + 1 + 1) 8 W0.heap.size W0 (HT.out.below kB) HF.out hk b3.cell b2.cell (Nat.le_refl _) (w.heap.size + 1) ⟨by have := HT.out.lt; omega, fun e => by have := HT.out.map.lt e; omega, by omega, by omega⟩) (fun h k => h.trans k) (fun W l o o' hl _ _ _ => ⟨(grownBy_putObj' W l o').size, fun i h1 h2 => by
      have : l ≠ i := by omega
      unfold World.putObj; simp [this]⟩) (Below.refl _ _) (fun _ => rfl)
    (fun pre W => ((∀ y ∈ pre, top y.1 = false) ∧ W.cell? ⟨w.heap.size, 0, none⟩ = some (.int .i64 0) ∧ W.frozen? ⟨w.heap.size, 0, none⟩ = false ∧ W.cell? ⟨w.heap.size + 1, 0, none⟩ = some (.int .i64 (pre.length : Nat)) ∧ W.frozen? ⟨w.heap.size + 1, 0, none⟩ = false) ∧ Below w.heap.size w W)
    (fun c pre W => (c = .ret ∧ (∃ p y, pre = p ++ [y] ∧ top y.1 = true ∧ (∀ z ∈ p, top z.1 = false) ∧ W.cell? ⟨w.heap.size, 0, none⟩ = some (.int .i64 (p.length : Nat)))) ∧ Below w.heap.size w W)
    (OwnFrom.and (Own.from (fun s A B row hs hg hr => ⟨hs.1, cell_kept hs.2.1 hg hr, (frozen_kept hs.2.1 hg hr).trans hs.2.2.1, cell_kept hs.2.2.2.1 hg hr, (frozen_kept hs.2.2.2.1 hg hr).trans hs.2.2.2.2⟩) _) (ownFrom_below (Nat.le_refl _) (by omega)))
    (fun c => OwnFrom.and (Own.from (fun s A B row hs hg hr => ⟨hs.1, by obtain ⟨p, y, e1, e2, e3, e4⟩ := hs.2; exact ⟨p, y, e1, e2, e3, cell_kept e4 hg hr⟩⟩) _) (ownFrom_below (Nat.le_refl _) (by omega)))
    ⟨⟨by simp, b0.cell, b0.frozen, b1.cell, b1.frozen⟩, kB⟩
    (fun x => { tmps := #[.pointer (some ⟨b, 0, none⟩), .int .u64 k, undef, undef, .pointer (some ⟨w.heap.size, 0, none⟩), .pointer (some ⟨w.heap.size + 1, 0, none⟩), .int .u64 x.1, .pointer (some ⟨b, 0, none⟩), .bool false, .pointer (some ⟨b, 0, none⟩), .int .u64 k, .func (.func 64) #[] #[.pointer (some ⟨w.heap.size + 1 + 1 + 1, 0, none⟩), .pointer (some ⟨w.heap.size + 1 + 1, 0, none⟩)], .int .u64 x.1, undef, undef, undef, undef, undef], defers := [] }) ?assign ?body ?done ?stop
  case assign =>
    intro l x W K hK
    gi_wp2
    exact hK
  case body =>
    rintro l pre x W ⟨⟨hp, hc0, hf0, hc1, hf1⟩, hB⟩ hlen
    have HB := hide hB
    have HP := hide hp
    have hw : IntKind.i64.wrap ((pre.length : Int) + 1) = pre.length + 1 := Sha.wrap_i64 _ (by omega) (by omega)
    clear hB hp
    cases hx : top x.1 with
    | true =>
      have HC := hide (fun v => top_any x.1 v)
      rw [hx] at HC
      have HX := hide hx
      clear hx
      gi_wp2_with (refine ⟨trivial, ?_⟩; gi_at_call 46; refine (CallsIn.inRound l (callsIn_wide.2 (HC.out _))).mono ?_; rintro e w2 ⟨rfl, rfl⟩)
      exact ⟨KeepsOthers.setCell _ _ _, ⟨rfl, pre, x, rfl, HX.out, HP.out, World.cell?_setCell_same' _ _ _ (by rw [hc0]; rfl)⟩, HB.out.setCell (p := ⟨w.heap.size, 0, none⟩) (by simp) _⟩
    | false =>
      have HC := hide (fun v => top_any x.1 v)
      rw [hx] at HC
      have HX := hide hx
      clear hx
      gi_wp2_with (refine ⟨trivial, ?_⟩; gi_at_call 46; refine (CallsIn.inRound l (callsIn_wide.2 (HC.out _))).mono ?_; rintro e w2 ⟨rfl, rfl⟩)
      refine ⟨KeepsOthers.setCell _ _ _, ⟨by simp, fun i h1 h2 => heap_setCell_other _ _ _ _ h2⟩, ⟨fun y hy => ?_, ?_, ?_, ?_, ?_⟩, HB.out.setCell (p := ⟨w.heap.size + 1, 0, none⟩) (by simp) _⟩
      · rcases List.mem_append.1 hy with hy | hy
        · exact HP.out y hy
        · rw [List.mem_singleton.1 hy]; exact HX.out
      · exact (cell_of_same (heap_setCell_other _ _ _ _ (by simp))).trans hc0
      · rw [World.frozen?_setCell]; exact hf0
      · rw [World.cell?_setCell_same' _ _ _ (by rw [hc1]; rfl), List.length_append]
        simp
      · rw [World.frozen?_setCell]; exact hf1
  case done =>
    rintro D ys W hD hys ⟨⟨hp, hc0, hf0, hc1, hf1⟩, hB⟩ hK
    have hbe : deepIn (way t k) 0 = -1 := by
      rw [← hys]
      refine deepIn_none _ _ fun y hy => ?_
      obtain ⟨z, hz, rfl⟩ := List.mem_map.1 hy
      exact hp z hz
    have HE := hide hbe
    have HB := hide hB
    clear hbe hB hp hys
    gi_wp2
    have hK' := (KeepsOthers.setCell W ⟨w.heap.size, 0, none⟩ (.int .i64 (-1))).same D _ hK rfl
    refine ⟨by simp, .inl ⟨_, _, rfl, run_takeDeferred hK', ?_⟩⟩
    have hc5 := cell_kept (World.cell?_setCell_same' W ⟨w.heap.size, 0, none⟩ (.int .i64 (-1)) (by rw [hc0]; rfl)) (grownBy_putObj' _ D (.deferred none)) (fun r e => by cases e; exact ⟨_, hK', rfl⟩)
    refine ⟨.int .i64 (-1), ?_, by rw [HE.out], (HB.out.setCell (p := ⟨w.heap.size, 0, none⟩) (by simp) _).trans (belowK_b (w := w) (Nat.le_refl _) _ D _ _ (by omega) hK' rfl rfl)⟩
    simp [results, Try.f29, go_sem, hc5]
  case stop =>
    rintro D c pre W hD hpre ⟨⟨rfl, p, y, rfl, hy, hp, hc1⟩, hB⟩ hK
    have hbe : deepIn (way t k) 0 = p.length := by
      obtain ⟨r, hr⟩ := hpre
      rw [← hr, List.map_append]
      have := deepIn_some (p.map (·.1)) y.1 r 0 (fun z hz => by obtain ⟨q, hq, rfl⟩ := List.mem_map.1 hz; exact hp q hq) hy
      simpa using this
    have HE := hide hbe
    have HB := hide hB
    clear hbe hB hpre
    gi_wp2
    refine ⟨by simp, .inl ⟨_, _, rfl, run_takeDeferred hK, ?_⟩⟩
    have hc5 := cell_kept hc1 (grownBy_putObj' _ D (.deferred none)) (fun r e => by cases e; exact ⟨_, hK, rfl⟩)
    refine ⟨.int .i64 p.length, ?_, by rw [HE.out], HB.out.trans (belowK_b (w := w) (Nat.le_refl _) _ D _ _ (by omega) hK rfl rfl)⟩
    simp [results, Try.f29, go_sem, hc5]
end Go.Proofs.Ytohdadjknefjcaa
