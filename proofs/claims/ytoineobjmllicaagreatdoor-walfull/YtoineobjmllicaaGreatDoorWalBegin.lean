/- Contract: the segment that begins. -/
import Derived.Test.YtoineobjmllicaaGreatDoorWalLast
namespace Go.Wal
open Go.RowKit Go.Dk
/-- A segment's bytes. -/
def readN (fs : List AF) (n : Nat) : Option Bs := (seek AF.name (seg n) fs).map AF.bytes
/-- Does it begin anew? -/
def isB (fs : List AF) (n : Nat) : Bool := match readN fs n with | some s => decide (head s = some true) | none => false
theorem isB_is {fs : List AF} {n : Nat} {s : Bs} (h : readN fs n = some s) : isB fs n = decide (head s = some true) := by unfold isB; rw [h]
def firstOf (fs : List AF) : Nat := ((nums fs).find? (isB fs)).getD 0
theorem nums_mem {fs : List AF} {n : Nat} (h : n ∈ nums fs) : 0 < n ∧ ∃ f ∈ fs, f.name = seg n := by
  unfold nums ups numsOf at h
  rw [List.mem_reverse, List.mem_mergeSort, List.mem_filter] at h
  obtain ⟨h1, h2⟩ := h
  obtain ⟨l, hl, rfl⟩ := List.mem_map.1 h1
  obtain ⟨f, hf, rfl⟩ := List.mem_map.1 hl
  have h0 : 0 < numOf f.name := by simpa using h2
  exact ⟨h0, f, hf, numOf_pos h0⟩
theorem nums_read {fs : List AF} {n : Nat} (h : n ∈ nums fs) : ∃ s, readN fs n = some s := by
  obtain ⟨_, f, hf, hn⟩ := nums_mem h
  unfold readN
  cases hk : seek AF.name (seg n) fs with
  | none => exact absurd hn (seek_none hk f hf)
  | some g => exact ⟨_, rfl⟩
theorem firstOf_none {fs : List AF} (h : ∀ n ∈ nums fs, isB fs n = false) : firstOf fs = 0 := by
  unfold firstOf
  rw [List.find?_eq_none.2 fun n hn => by rw [h n hn]; decide]
  rfl
theorem firstOf_some {fs : List AF} {pre rest : List Nat} {n : Nat} (he : nums fs = pre ++ n :: rest) (h : ∀ m ∈ pre, isB fs m = false) (hn : isB fs n = true) : firstOf fs = n := by
  unfold firstOf
  rw [he, List.find?_append, List.find?_eq_none.2 fun m hm => by rw [h m hm]; decide, List.find?_cons, hn]
  rfl
theorem keeps_ints {n0 : Nat} {w w' : World} (h : Below w.heap.size w w') : KeepsInts n0 w w' := ⟨h.size, fun k _ _ hk => (h.block k (block_lt hk)).trans hk⟩
theorem keeps_others {w w' : World} (h : Below w.heap.size w w') : KeepsOthers w w' := ⟨h.size, fun k _ hk _ => (h.block k (block_lt hk)).trans hk⟩
theorem ints_b {w : World} {n0 : Nat} (W : World) (l : Nat) (o o' : Obj) (_ : w.heap.size ≤ l) (ho : W.heap[l]? = some o) (hc : o.isCells = false) (_ : o.isWalk = false) : KeepsInts n0 W (W.putObj l o') := by
  refine ⟨by simp, fun k cs _ hk => ?_⟩
  rw [World.putObj_heap_other]
  · exact hk
  · intro e
    rw [e, ho] at hk
    cases hk
    cases hc
theorem Boxed.under {W W' : World} {B : Nat} {t : TypeId} {v : Value} (h : Boxed W B t v) (hb : Below W.heap.size W W') : Boxed W' B t v := (hb.block B h.lt).trans h
theorem boxed_row {W : World} {B : Nat} {t : TypeId} {v : Value} {row : Option Nat} (h : Boxed W B t v) (hr : ∀ r, row = some r → ∃ o : Obj, W.heap[r]? = some o ∧ o.isCells = false) : some B ≠ row := fun e => by
  obtain ⟨o, h1, h2⟩ := hr B e.symm
  unfold Boxed at h
  rw [h] at h1
  cases h1
  cases h2
/-- What a function has of its own while it goes over segments. -/
structure Bg (W0 : World) (t0 t1 t2 : TypeId) (u : Value) (r e : Int) (W : World) : Prop where
  b0 : Boxed W W0.heap.size t0 u
  b1 : Boxed W (W0.heap.size + 1) t1 (.int .i64 r)
  b2 : Boxed W (W0.heap.size + 1 + 1) t2 (.int .i64 e)
  below : Below W0.heap.size W0 W
theorem Bg.under {W0 W W' : World} {t0 t1 t2 : TypeId} {u : Value} {r e : Int} (h : Bg W0 t0 t1 t2 u r e W) (hb : Below W.heap.size W W') : Bg W0 t0 t1 t2 u r e W' :=
  ⟨Boxed.under h.b0 hb, Boxed.under h.b1 hb, Boxed.under h.b2 hb, h.below.trans (hb.mono h.below.size)⟩
theorem Bg.turned {W0 W W' : World} {t0 t1 t2 : TypeId} {u : Value} {r e : Int} {row : Option Nat} (h : Bg W0 t0 t1 t2 u r e W) (hg : W.grownBy W' row) {B : Nat} (hr : ∀ r, row = some r → B ≤ r ∧ ∃ o : Obj, W.heap[r]? = some o ∧ o.isCells = false) (hB : W0.heap.size ≤ B) : Bg W0 t0 t1 t2 u r e W' :=
  have hr' := fun r e => (hr r e).2
  ⟨h.b0.kept hg (boxed_row h.b0 hr'), h.b1.kept hg (boxed_row h.b1 hr'), h.b2.kept hg (boxed_row h.b2 hr'), h.below.grown hg h.below.size fun k e => Nat.le_trans hB (hr k e).1⟩
theorem Bg.told {W0 W : World} {t0 t1 t2 : TypeId} {u : Value} {r e : Int} (h : Bg W0 t0 t1 t2 u r e W) (r' e' : Int) : Bg W0 t0 t1 t2 u r' e' ((W.setCell ⟨W0.heap.size + 1, 0, none⟩ (.int .i64 r')).setCell ⟨W0.heap.size + 1 + 1, 0, none⟩ (.int .i64 e')) :=
  ⟨(h.b0.other (by omega) _).other (by omega) _, (h.b1.set _).other (by omega) _, (h.b2.other (by omega) _).set _, (h.below.setCell (p := ⟨W0.heap.size + 1, 0, none⟩) (by simp) _).setCell (p := ⟨W0.heap.size + 1 + 1, 0, none⟩) (by simp; omega) _⟩
end Go.Wal
namespace Go.Proofs.YtoineobjmllicaaGreatDoor
open Go.RowKit Go.Shelf Go.Dk Go.Wal
attribute [local go_sem] Oper.semAt_some
variable {M : Nat → Prop}
theorem fromLast_any (d : Nat) (w : World) : Calls Tryz.prog 68 #[.pointer (some ⟨d, 0, none⟩)] w fun e w' => e = .returned (.func (.func 95) #[] #[.pointer (some ⟨w.heap.size, 0, none⟩)]) ∧ w' = w.alloc (.cells #[.pointer (some ⟨d, 0, none⟩)] 23) := by
  go_enter Tryz.func68, Tryz.ntmps68
  go_wp2
  go_ret
  exact ⟨rfl, rfl⟩
theorem readSeg_any (base K d n : Nat) (S : WD) (w : World) (h : DiskAt Tryz.prog M base K d w S) (hd : S.a.down = false) (hn : n < 9223372036854775808) :
    Calls Tryz.prog 66 #[.pointer (some ⟨d, 0, none⟩), .string ⟨(seg n).toArray⟩] w fun e w' => e = .returned (match readN S.a.files n with | some s => .tuple #[.string ⟨s.toArray⟩, .int .i64 0] | none => .tuple #[.string ⟨#[]⟩, .int .i64 2]) ∧ w' = w := by
  have hsz : (⟨(seg n).toArray⟩ : ByteArray).size ≤ maxLen := by rw [ba_size]; have := seg_length n hn; unfold maxLen; omega
  have ha : ableOf S.a (seg n) = 0 := by unfold ableOf; rw [hd, seg_ok n hn]; rfl
  unfold readN
  rcases seek_two h (seg n) with ⟨h1, h2⟩ | ⟨F, h1, h2⟩
  · rw [h1]
    have HA := hide (find_none base K d S ⟨(seg n).toArray⟩ w h hsz ha h2)
    clear h h1 h2 ha hsz
    go_enter Tryz.func66, Tryz.ntmps66
    go_wp2_with (go_at_call 93; refine HA.out.mono ?_; rintro e w' ⟨rfl, rfl⟩)
    go_ret2
    exact ⟨rfl, rfl⟩
  · rw [h1]
    exact read_some base K d S ⟨(seg n).toArray⟩ F w h hsz ha h2
set_option maxHeartbeats 2000000 in
set_option maxRecDepth 100000 in
theorem begin_any (base K d : Nat) (S : WD) (w : World) (h : DiskAt Tryz.prog M base K d w S) (hv : Vars w) (hd : S.a.down = false) (hs : ∀ f ∈ S.a.files, f.bytes.length ≤ 1000000) :
    Calls Tryz.prog 65 #[.pointer (some ⟨d, 0, none⟩)] w fun e w' => e = .returned (.tuple #[.int .i64 (firstOf S.a.files), .int .i64 0]) ∧ Below w.heap.size w w' := by
  refine (callsIn_wide (n := 9)).1 ?_
  refine callsIn_of_wp_marks Tryz.func65 rfl trivial ?_ rfl
  simp only [Tryz.ntmps65, List.size_toArray, List.length_cons, List.length_nil, Nat.reduceAdd, Nat.reduceSub, Array.replicate_succ, Array.replicate_zero, List.push_toArray, List.append_toArray, List.nil_append, List.cons_append]
  have HD := hide h
  have HV := hide hv
  clear h hv
  gi_wp2_with (refine ⟨trivial, ?_⟩; gi_at_call 68; refine (callsIn_wide.2 (fromLast_any d _)).mono ?_; rintro e w1 ⟨rfl, rfl⟩)
  have hB0 : Below w.heap.size w ((((w.alloc (.cells #[.pointer (some ⟨d, 0, none⟩)] 23)).alloc (.cells #[.int .i64 0] 3)).alloc (.cells #[.int .i64 0] 26)).alloc (.cells #[.pointer (some ⟨d, 0, none⟩)] 23)) := ((((Below.refl _ w).alloc (Nat.le_refl _) _).alloc (by simp) _).alloc (by simp; omega) _).alloc (by simp; omega) _
  have G0 : Bg w 23 3 26 (.pointer (some ⟨d, 0, none⟩)) 0 0 ((((w.alloc (.cells #[.pointer (some ⟨d, 0, none⟩)] 23)).alloc (.cells #[.int .i64 0] 3)).alloc (.cells #[.int .i64 0] 26)).alloc (.cells #[.pointer (some ⟨d, 0, none⟩)] 23)) :=
    ⟨(((Boxed.new w _ _).alloc _).alloc _).alloc _, by have := ((Boxed.new (w.alloc (.cells #[.pointer (some ⟨d, 0, none⟩)] 23)) 3 (.int .i64 0)).alloc (.cells #[.int .i64 0] 26)).alloc (.cells #[.pointer (some ⟨d, 0, none⟩)] 23); rw [World.size_alloc] at this; exact this,
     by have := (Boxed.new ((w.alloc (.cells #[.pointer (some ⟨d, 0, none⟩)] 23)).alloc (.cells #[.int .i64 0] 3)) 26 (.int .i64 0)).alloc (.cells #[.pointer (some ⟨d, 0, none⟩)] 23); rw [World.size_alloc, World.size_alloc] at this; exact this, hB0⟩
  have c3 := (Boxed.new (((w.alloc (.cells #[.pointer (some ⟨d, 0, none⟩)] 23)).alloc (.cells #[.int .i64 0] 3)).alloc (.cells #[.int .i64 0] 26)) 23 (.pointer (some ⟨d, 0, none⟩))).cell
  simp only [World.size_alloc] at c3
  refine wpIn_rangeFunc_ownF rfl (by decide) (gf := 95) (lb := #[.pointer (some ⟨w.heap.size + 1 + 1 + 1, 0, none⟩)]) rfl trivial (enters_of Tryz.func95 (by kernel_rfl) rfl)
    (last_in base K d (w.heap.size + 1 + 1 + 1) w.heap.size 8 S _ (HD.out.below hB0) (Vars.below HV.out hB0) c3 (by simp; omega)) (fun a b => a.trans b) ints_b (Below.refl _ _) (fun _ => rfl)
    (fun pre W => (∀ y ∈ pre, isB S.a.files y.1 = false) ∧ Bg w 23 3 26 (.pointer (some ⟨d, 0, none⟩)) 0 0 W)
    (fun c pre W => c = .ret ∧ ∃ (pre0 : List I63) (x : I63) (r e : Int), pre = pre0 ++ [x] ∧ (∀ y ∈ pre0, isB S.a.files y.1 = false) ∧ ((∃ s, readN S.a.files x.1 = some s) → isB S.a.files x.1 = true ∧ r = x.1 ∧ e = 0) ∧ Bg w 23 3 26 (.pointer (some ⟨d, 0, none⟩)) r e W)
    (fun s A B row hs hg hr => ⟨hs.1, hs.2.turned hg hr (by simp; omega)⟩)
    (fun c s A B row hs hg hr => by
      obtain ⟨h1, pre0, x, r, e, h2, h3, h4, h5⟩ := hs
      exact ⟨h1, pre0, x, r, e, h2, h3, h4, h5.turned hg hr (by simp; omega)⟩)
    ⟨by simp, G0⟩
    (fun x => { tmps := #[.pointer (some ⟨d, 0, none⟩), .pointer (some ⟨w.heap.size, 0, none⟩), .pointer (some ⟨w.heap.size + 1, 0, none⟩), .pointer (some ⟨w.heap.size + 1 + 1, 0, none⟩), .int .i64 x.1, undef, undef, undef, undef, .pointer (some ⟨d, 0, none⟩), .func (.func 95) #[] #[.pointer (some ⟨w.heap.size + 1 + 1 + 1, 0, none⟩)], .int .i64 x.1, undef, undef, undef, undef, undef, undef, undef, undef, undef, undef, undef, undef, undef, undef, undef, undef, undef, undef], defers := [] }) ?assign ?body ?done ?stop
  case assign =>
    intro l x W K hK
    gi_wp2
    exact hK
  case body =>
    rintro l pre x W ⟨hp, hG⟩ _
    have HF : Hid (∀ U, Below W.heap.size W U → Calls Tryz.prog 51 #[.int .i64 x.1] U fun e w' => e = .returned (.string ⟨(seg x.1).toArray⟩) ∧ Below W.heap.size W w') := fun U hU =>
      (fileName_any x.1 U (Vars.below (Vars.below HV.out hG.below) hU) x.2).mono fun e w' ⟨he, hb⟩ => ⟨he, hU.trans (hb.mono hU.size)⟩
    have HR : Hid (∀ U, Below W.heap.size W U → Calls Tryz.prog 66 #[.pointer (some ⟨d, 0, none⟩), .string ⟨(seg x.1).toArray⟩] U fun e w' => e = .returned (match readN S.a.files x.1 with | some s => .tuple #[.string ⟨s.toArray⟩, .int .i64 0] | none => .tuple #[.string ⟨#[]⟩, .int .i64 2]) ∧ w' = U) := fun U hU => readSeg_any base K d x.1 S U ((HD.out.below hG.below).below hU) hd x.2
    have q0 := hG.b0.cell
    have q1 := hG.b1.cell
    have q2 := hG.b2.cell
    have hmix : Tryz.prog.follows .mixedOrders = true := by kernel_rfl
    cases hr : readN S.a.files x.1 with
    | none =>
      rw [hr] at HR
      gi_wp2_with fail
      gi_region_with_o (first
        | (refine ⟨trivial, ?_⟩; gi_at_call 51; refine (CallsIn.inRound l (callsIn_wide.2 (HF.out _ (by first | exact Below.refl _ _ | exact ⟨rfl, rfl, rfl, Nat.le_refl _, fun _ _ => rfl⟩)))).mono ?_; rintro e w2 ⟨rfl, k2⟩; have K2 := hide k2; have e0 := (k2.cell (p := ⟨w.heap.size, 0, none⟩) hG.b0.lt).trans q0; clear k2)
        | (refine ⟨trivial, ?_⟩; gi_at_call 66; refine (CallsIn.inRound l (callsIn_wide.2 (HR.out _ K2.out))).mono ?_; rintro e w3 ⟨rfl, rfl⟩))
      all_goals
        have HG := hide (hG.under K2.out)
        have t1 := HG.out.b1.cell
        have t2 := HG.out.b2.cell
        have g1 := HG.out.b1.frozen
        have g2 := HG.out.b2.frozen
        clear e0 q0 q1 q2
        gi_wp2_with fail
      all_goals exact ⟨(keeps_others K2.out).trans ((KeepsOthers.setCell _ _ _).trans (KeepsOthers.setCell _ _ _)), rfl, pre, x, 0, 2, rfl, hp, fun ⟨s, h⟩ => (by rw [hr] at h; cases h), HG.out.told 0 2⟩
    | some s =>
      rw [hr] at HR
      have hsl : s.length ≤ 1000000 := by
        unfold readN at hr
        cases hk : seek AF.name (seg x.1) S.a.files with
        | none => rw [hk] at hr; cases hr
        | some f => rw [hk] at hr; cases hr; exact hs f (seek_some hk).1
      cases hh : head s with
      | none =>
        gi_wp2_with fail
        gi_region_with_o (first
          | (refine ⟨trivial, ?_⟩; gi_at_call 51; refine (CallsIn.inRound l (callsIn_wide.2 (HF.out _ (by first | exact Below.refl _ _ | exact ⟨rfl, rfl, rfl, Nat.le_refl _, fun _ _ => rfl⟩)))).mono ?_; rintro e w2 ⟨rfl, k2⟩; have K2 := hide k2; have e0 := (k2.cell (p := ⟨w.heap.size, 0, none⟩) hG.b0.lt).trans q0; clear k2)
          | (refine ⟨trivial, ?_⟩; gi_at_call 66; refine (CallsIn.inRound l (callsIn_wide.2 (HR.out _ K2.out))).mono ?_; rintro e w3 ⟨rfl, rfl⟩))
        all_goals
          have HT : Hid (Calls Tryz.prog 92 #[.string ⟨s.toArray⟩] w3 fun e w' => e = .returned (.tuple #[.string ⟨#[]⟩, .int .i64 0]) ∧ Bg w 23 3 26 (.pointer (some ⟨d, 0, none⟩)) 0 0 w' ∧ Below W.heap.size W w') := by
            have := takeHead_any s w3 hsl
            rw [hh] at this
            exact this.mono fun e w' ⟨he, hb⟩ => ⟨he, (hG.under K2.out).under hb, K2.out.trans (hb.mono K2.out.size)⟩
          clear e0 q0 q1 q2
          gi_wp2_with (refine ⟨trivial, ?_⟩; gi_at_call 92; refine (CallsIn.inRound l (callsIn_wide.2 HT.out)).mono ?_; rintro e w4 ⟨rfl, hG4, k4⟩; have HG := hide (And.intro hG4 k4); have t1 := hG4.b1.cell; have t2 := hG4.b2.cell; have g1 := hG4.b1.frozen; have g2 := hG4.b2.frozen; clear hG4 k4)
        all_goals exact ⟨keeps_others HG.out.2, keeps_ints HG.out.2, fun y hy => (List.mem_append.1 hy).elim (hp y) (fun e => by rw [List.mem_singleton.1 e]; rw [isB_is hr, hh]; rfl), HG.out.1⟩
      | some b =>
        cases b with
        | false =>
          gi_wp2_with fail
          gi_region_with_o (first
            | (refine ⟨trivial, ?_⟩; gi_at_call 51; refine (CallsIn.inRound l (callsIn_wide.2 (HF.out _ (by first | exact Below.refl _ _ | exact ⟨rfl, rfl, rfl, Nat.le_refl _, fun _ _ => rfl⟩)))).mono ?_; rintro e w2 ⟨rfl, k2⟩; have K2 := hide k2; have e0 := (k2.cell (p := ⟨w.heap.size, 0, none⟩) hG.b0.lt).trans q0; clear k2)
            | (refine ⟨trivial, ?_⟩; gi_at_call 66; refine (CallsIn.inRound l (callsIn_wide.2 (HR.out _ K2.out))).mono ?_; rintro e w3 ⟨rfl, rfl⟩))
          all_goals
            have HT : Hid (Calls Tryz.prog 92 #[.string ⟨s.toArray⟩] w3 fun e w' => e = .returned (.tuple #[.string ⟨#[71]⟩, .int .i64 17]) ∧ Bg w 23 3 26 (.pointer (some ⟨d, 0, none⟩)) 0 0 w' ∧ Below W.heap.size W w') := by
              have := takeHead_any s w3 hsl
              rw [hh] at this
              exact this.mono fun e w' ⟨he, hb⟩ => ⟨he, (hG.under K2.out).under hb, K2.out.trans (hb.mono K2.out.size)⟩
            clear e0 q0 q1 q2
            gi_wp2_with (refine ⟨trivial, ?_⟩; gi_at_call 92; refine (CallsIn.inRound l (callsIn_wide.2 HT.out)).mono ?_; rintro e w4 ⟨rfl, hG4, k4⟩; have HG := hide (And.intro hG4 k4); have t1 := hG4.b1.cell; have t2 := hG4.b2.cell; have g1 := hG4.b1.frozen; have g2 := hG4.b2.frozen; clear hG4 k4)
          all_goals exact ⟨keeps_others HG.out.2, keeps_ints HG.out.2, fun y hy => (List.mem_append.1 hy).elim (hp y) (fun e => by rw [List.mem_singleton.1 e]; rw [isB_is hr, hh]; rfl), HG.out.1⟩
        | true =>
          gi_wp2_with fail
          gi_region_with_o (first
            | (refine ⟨trivial, ?_⟩; gi_at_call 51; refine (CallsIn.inRound l (callsIn_wide.2 (HF.out _ (by first | exact Below.refl _ _ | exact ⟨rfl, rfl, rfl, Nat.le_refl _, fun _ _ => rfl⟩)))).mono ?_; rintro e w2 ⟨rfl, k2⟩; have K2 := hide k2; have e0 := (k2.cell (p := ⟨w.heap.size, 0, none⟩) hG.b0.lt).trans q0; clear k2)
            | (refine ⟨trivial, ?_⟩; gi_at_call 66; refine (CallsIn.inRound l (callsIn_wide.2 (HR.out _ K2.out))).mono ?_; rintro e w3 ⟨rfl, rfl⟩))
          all_goals
            have HT : Hid (Calls Tryz.prog 92 #[.string ⟨s.toArray⟩] w3 fun e w' => e = .returned (.tuple #[.string ⟨#[66]⟩, .int .i64 17]) ∧ Bg w 23 3 26 (.pointer (some ⟨d, 0, none⟩)) 0 0 w' ∧ Below W.heap.size W w') := by
              have := takeHead_any s w3 hsl
              rw [hh] at this
              exact this.mono fun e w' ⟨he, hb⟩ => ⟨he, (hG.under K2.out).under hb, K2.out.trans (hb.mono K2.out.size)⟩
            clear e0 q0 q1 q2
            gi_wp2_with (refine ⟨trivial, ?_⟩; gi_at_call 92; refine (CallsIn.inRound l (callsIn_wide.2 HT.out)).mono ?_; rintro e w4 ⟨rfl, hG4, k4⟩; have HG := hide (And.intro hG4 k4); have t1 := hG4.b1.cell; have t2 := hG4.b2.cell; have g1 := hG4.b1.frozen; have g2 := hG4.b2.frozen; clear hG4 k4)
          all_goals exact ⟨(keeps_others HG.out.2).trans ((KeepsOthers.setCell _ _ _).trans (KeepsOthers.setCell _ _ _)), rfl, pre, x, x.1, 0, rfl, hp, fun _ => ⟨by rw [isB_is hr, hh]; rfl, rfl, rfl⟩, HG.out.1.told _ 0⟩
  case done =>
    rintro D ys W hD hys ⟨hne, hG⟩ hK
    have b1 := hG.b1.cell
    have b2 := hG.b2.cell
    have f1 := hG.b1.frozen
    have f2 := hG.b2.frozen
    gi_wp2
    have hK' := (KeepsOthers.setCell _ ⟨w.heap.size + 1 + 1, 0, none⟩ (.int .i64 0)).same D _ ((KeepsOthers.setCell W ⟨w.heap.size + 1, 0, none⟩ (.int .i64 0)).same D _ hK rfl) rfl
    refine ⟨by simp, .inl ⟨_, _, rfl, run_takeDeferred hK', ?_⟩⟩
    have hG' := (hG.told 0 0).turned (grownBy_putObj' _ D (.deferred none)) (fun r e => by cases e; exact ⟨by simp at hD; exact Nat.le_of_lt_succ (by omega), _, hK', rfl⟩) (Nat.le_refl _)
    have h1 := hG'.b1.cell
    have h2 := hG'.b2.cell
    refine ⟨.tuple #[.int .i64 0, .int .i64 0], ?_, ?_, hG'.below⟩
    · simp [results, Tryz.f65, go_sem, h1, h2]
    · rw [firstOf_none]
      · rfl
      · intro m hm
        rw [← hys] at hm
        obtain ⟨y, hy, rfl⟩ := List.mem_map.1 hm
        exact hne y hy
  case stop =>
    rintro D c pre W hD hpre ⟨rfl, pre0, x, r, e, rfl, h2, h3, hG⟩ hK
    gi_wp2
    refine ⟨by simp, .inl ⟨_, _, rfl, run_takeDeferred hK, ?_⟩⟩
    have hG' := hG.turned (grownBy_putObj' _ D (.deferred none)) (fun r e => by cases e; exact ⟨by simp at hD; exact Nat.le_of_lt_succ (by omega), _, hK, rfl⟩) (Nat.le_refl _)
    have g1 := hG'.b1.cell
    have g2 := hG'.b2.cell
    obtain ⟨rest, hrest⟩ := hpre
    rw [List.map_append] at hrest
    have hmem : x.1 ∈ nums S.a.files := by rw [← hrest]; simp
    obtain ⟨hb, rfl, rfl⟩ := h3 (nums_read hmem)
    refine ⟨.tuple #[.int .i64 x.1, .int .i64 0], ?_, ?_, hG'.below⟩
    · simp [results, Tryz.f65, go_sem, g1, g2]
    · rw [firstOf_some (pre := pre0.map Subtype.val) (rest := rest) (n := x.1) (by rw [← hrest, List.append_assoc]; rfl) (fun m hm => by obtain ⟨y, hy, rfl⟩ := List.mem_map.1 hm; exact h2 y hy) hb]
end Go.Proofs.YtoineobjmllicaaGreatDoor
