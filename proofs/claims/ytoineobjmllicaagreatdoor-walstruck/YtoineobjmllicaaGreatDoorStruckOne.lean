/- Several texts in one: WalStruckOps. -/
import Derived.Test.YtoineobjmllicaaGreatDoorCloneOne
import Derived.Test.YtoineobjmllicaaGreatDoorSweptOne
import Derived.Test.YtoineobjmllicaaGreatDoorQuietAll
/- The calls of WalStruck while a fall is planned: the law's own fall stands. -/
namespace Go.Proofs.YtoineobjmllicaaGreatDoor
open Go.RowKit Go.Dk Go.Wal Go.Wire
variable {M : Nat → Prop}
set_option maxHeartbeats 1000000 in
/-- Plan of nothing. -/
theorem plan_none (base K d : Nat) (S : WD) (w : World) (hM : ∀ b, w.heap.size ≤ b → M b) (h : DiskAt Tryz.prog M base K d w S) (hbase : base ≤ w.heap.size) :
    Calls Tryz.prog 26 #[.pointer (some ⟨d, 0, none⟩), .slice none 0 0] w fun e w' => e = .returned (.tuple #[]) ∧ ∃ T : WD, T.a = { S.a with fall := none } ∧ DiskAt Tryz.prog M base K d w' T ∧ Dsk M base w w' := by
  have HC : Hid (Calls Tryz.prog 54 #[.slice none 0 0] w fun e w' => ∃ a k, e = .returned (.slice a 0 k) ∧ w'.ownsRow w.heap.size 34 3 (.slice a 0 k) 0 [] ∧ Below w.heap.size w w') := by
    refine (clonePlan_any base _ w (World.ownsRow_nil _ _ _ _)).mono ?_
    rintro e w' ⟨v', rfl, h1, h2⟩
    obtain ⟨_, ⟨rfl, _⟩ | ⟨g, cap, cur, rfl, _⟩⟩ := id h1
    · exact ⟨_, _, rfl, h1, h2⟩
    · exact ⟨_, _, rfl, h1, h2⟩
  have HR : Hid (∀ w1 v, Below w.heap.size w w1 → w1.ownsRow w.heap.size 34 3 v 0 [] → DiskAt Tryz.prog M base K d (w1.setCell ⟨d, 1, none⟩ v) { S with a := { S.a with fall := none }, pv := v } ∧ Dsk M base w (w1.setCell ⟨d, 1, none⟩ v)) := fun w1 v hb hr => h.replan hM hbase hb v none hr
  have HD : Hid (∀ w1, Below w.heap.size w w1 → ∃ u, w1.cell? ⟨d, 1, none⟩ = some u ∧ w1.frozen? ⟨d, 1, none⟩ = false) := fun w1 hb => by
    have := (h.below hb).row
    unfold drow at this
    exact ⟨_, (cells6 this).2.1, (cells6 this).2.2.2.2.2.2 1⟩
  clear h
  go_enter Tryz.func26, Tryz.ntmps26
  go_wp2_with (go_at_call 54; refine HC.out.mono ?_; rintro e w1 ⟨a, k, rfl, hr1, k1⟩; obtain ⟨u, c1, f1⟩ := HD.out w1 k1)
  go_end0
  obtain ⟨k2, k3⟩ := HR.out w1 _ k1 hr1
  exact ⟨rfl, _, rfl, k2, k3⟩
/-- The law's disk while a fall f of its own lies in block g, beside the first log. -/
structure Rn (w : World) (K g : Nat) (a : A) (f : Fall) (B b1 c1 : Nat) (l : Lg) (rv : Value) (W : World) : Prop where
  disk : ∃ S : WD, S.a = a ∧ DiskAt Tryz.prog (fun b => b ≠ g) w.heap.size K w.heap.size W S
  row : W.heap[g]? = some (.cells #[.int .i64 f.on, .int .i64 f.keep, .int .i64 f.torn] 34 (0, 0))
  log : LogAt TLog B b1 c1 l rv W
  below : Below w.heap.size w W
theorem Rn.under {w W W' : World} {K g B b1 c1 : Nat} {a : A} {f : Fall} {l : Lg} {rv : Value} (h : Rn w K g a f B b1 c1 l rv W) (k : Below W.heap.size W W') : Rn w K g a f B b1 c1 l rv W' := by
  obtain ⟨S, h1, h2⟩ := h.disk
  exact ⟨⟨S, h1, h2.below k⟩, (k.block g (block_lt h.row)).trans h.row, h.log.below k, h.below.trans (k.mono h.below.size)⟩
theorem Rn.step {w W W' : World} {K K' g B b1 c1 : Nat} {a a' : A} {f : Fall} {l : Lg} {rv : Value} (h : Rn w K g a f B b1 c1 l rv W) (T : WD) (hT : T.a = a') (hD : DiskAt Tryz.prog (fun b => b ≠ g) w.heap.size K' w.heap.size W' T) (k : Dsk (fun b => b ≠ g) w.heap.size W W') : Rn w K' g a' f B b1 c1 l rv W' :=
  ⟨⟨T, hT, hD⟩, box_kept k h.row (by simp [dkind]), h.log.dsk k, h.below.trans (k.below h.below.size)⟩
theorem Rn.new {w W W' : World} {K g B b1 c1 : Nat} {a : A} {f : Fall} {l : Lg} {rv : Value} (h : Dw w w.heap.size K a W) (hg : g = W.heap.size) (hL : LogAt TLog B b1 c1 l rv W) (k : Below W.heap.size W W') (hr : W'.heap[g]? = some (.cells #[.int .i64 f.on, .int .i64 f.keep, .int .i64 f.torn] 34 (0, 0))) : Rn w K g a f B b1 c1 l rv W' := by
  obtain ⟨S, h1, h2⟩ := h.disk
  exact ⟨⟨S, h1, (DiskAt.re h2 fun b hb => by have := DiskAt.own_lt h2 hb; omega).below k⟩, hr, hL.below k, h.below.trans (k.mono h.below.size)⟩
theorem Rn.back {w W : World} {K g B b1 c1 : Nat} {a : A} {f : Fall} {l : Lg} {rv : Value} (h : Rn w K g a f B b1 c1 l rv W) : Dw w w.heap.size K a W := by
  obtain ⟨S, h1, h2⟩ := h.disk
  exact ⟨⟨S, h1, DiskAt.re h2 fun _ _ => trivial⟩, h.below⟩
section
variable {w W : World} {K g B b1 c1 : Nat} {a : A} {f : Fall} {l : Lg} {rv : Value}
theorem rnPlan (h : Rn w K g a f B b1 c1 l rv W) (p c : Nat) (hp : W.heap[p]? = some (.cells #[.int .i64 f.on, .int .i64 f.keep, .int .i64 f.torn] 34 (0, 0))) :
    Calls Tryz.prog 26 #[.pointer (some ⟨w.heap.size, 0, none⟩), .slice (some ⟨p, 0, none⟩) 1 c] W fun e W' => e = .returned (.tuple #[]) ∧ Rn w K g { a with fall := some f } f B b1 c1 l rv W' := by
  obtain ⟨S, hS, hD⟩ := h.disk
  refine (plan_any w.heap.size K w.heap.size p c S f W (fun b hb => by have := block_lt h.row; omega) hD h.below.size hp).mono ?_
  rintro e W' ⟨he, T, hT, hD', hk⟩
  exact ⟨he, h.step T (by rw [hT, hS]) hD' hk⟩
theorem rnPlanNil (h : Rn w K g a f B b1 c1 l rv W) :
    Calls Tryz.prog 26 #[.pointer (some ⟨w.heap.size, 0, none⟩), .slice none 0 0] W fun e W' => e = .returned (.tuple #[]) ∧ Rn w K g { a with fall := none } f B b1 c1 l rv W' := by
  obtain ⟨S, hS, hD⟩ := h.disk
  refine (plan_none w.heap.size K w.heap.size S W (fun b hb => by have := block_lt h.row; omega) hD h.below.size).mono ?_
  rintro e W' ⟨he, T, hT, hD', hk⟩
  exact ⟨he, h.step T (by rw [hT, hS]) hD' hk⟩
theorem rnCrash (h : Rn w K g a f B b1 c1 l rv W) (k t : Int) :
    Calls Tryz.prog 16 #[.pointer (some ⟨w.heap.size, 0, none⟩), .int .i64 k, .int .i64 t] W fun e W' => e = .returned (.tuple #[]) ∧ Rn w K g (a.crash k t) f B b1 c1 l rv W' := by
  obtain ⟨S, hS, hD⟩ := h.disk
  refine (crash_op w.heap.size K w.heap.size S k t W hD h.below.size).mono ?_
  rintro e W' ⟨he, T, hT, hD', hk⟩
  exact ⟨he, h.step T (by rw [hT, hS]) hD' hk⟩
theorem rnUp (h : Rn w K g a f B b1 c1 l rv W) :
    Calls Tryz.prog 17 #[.pointer (some ⟨w.heap.size, 0, none⟩)] W fun e W' => (∃ bb, e = .returned (.bool bb)) ∧ Rn w K g { a with down := false } f B b1 c1 l rv W' := by
  obtain ⟨S, hS, hD⟩ := h.disk
  refine (up_op w.heap.size K w.heap.size S W hD).mono ?_
  rintro e W' ⟨he, T, hT, hD', hk⟩
  exact ⟨⟨_, he⟩, h.step T (by rw [hT, hS]) hD' hk⟩
theorem rnChanges (h : Rn w K g a f B b1 c1 l rv W) :
    Calls Tryz.prog 25 #[.pointer (some ⟨w.heap.size, 0, none⟩)] W fun e W' => e = .returned (.int .i64 a.changes) ∧ Below W.heap.size W W' := by
  obtain ⟨S, hS, hD⟩ := h.disk
  have hr := hD.row
  unfold drow at hr
  refine (changes_any w.heap.size _ _ _ _ _ _ W hr).mono ?_
  rintro e W' ⟨he, rfl⟩
  exact ⟨by rw [he, hS], Below.refl _ _⟩
/-- An opening, struck or not. -/
theorem rnOpen (h : Rn w K g a f B b1 c1 l rv W) (hv : Vars w) (hd : a.down = false) (hs : Sm a.files) (hf : Few a.files) (hr : (gatherOf a.files 100).recs.length ≤ 1000000) (hK : K + a.files.length ≤ 4980) :
    Calls Tryz.prog 10 #[.pointer (some ⟨w.heap.size, 0, none⟩), .int .i64 100] W fun e W' => (∃ v n m, e = .returned (.tuple #[v, .int .i64 n, .int .i64 m])) ∧ Rn w (K + a.files.length + 1) g (openOf a 100).1 f B b1 c1 l rv W' := by
  obtain ⟨S, hS, hD⟩ := h.disk
  have := walOpen_all w.heap.size K w.heap.size S 100 W hD (Vars.below hv h.below) h.below.size hv.size (by rw [hS]; exact hK) (by decide) (by rw [hS]; exact hd) (by rw [hS]; exact hs) (by rw [hS]; exact hf) (by rw [hS]; exact hr)
  rw [hS] at this
  refine this.mono ?_
  rintro e W' ⟨hcase, ⟨T, hT, hD'⟩, hk⟩
  refine ⟨?_, h.step T hT hD' hk⟩
  rcases hcase with ⟨he, _⟩ | ⟨b, rv', he, _⟩
  · exact ⟨_, _, _, he⟩
  · exact ⟨_, _, _, he⟩
end
theorem Rn.set {w W : World} {K g B b1 c1 : Nat} {a : A} {f : Fall} {l : Lg} {rv : Value} (h : Rn w K g a f B b1 c1 l rv W) (hg : w.heap.size ≤ g) (n : Int) : Rn w K g a ⟨n, f.keep, f.torn⟩ B b1 c1 l rv (W.setCell ⟨g, 0, none⟩ (.int .i64 n)) := by
  obtain ⟨S, h1, h2⟩ := h.disk
  have t : Tch (· = g) W (W.setCell ⟨g, 0, none⟩ (.int .i64 n)) := .set _ _ _ _ rfl
  have hne : ∀ (j : Nat) (cs : Array Value) (t' : TypeId), t' ≠ 34 → W.heap[j]? = some (.cells cs t' (0, 0)) → (W.setCell ⟨g, 0, none⟩ (.int .i64 n)).heap[j]? = W.heap[j]? := fun j cs t' ht hj => heap_setCell_other _ _ _ _ fun e => by
    rw [show j = g from e, h.row] at hj
    cases hj
    exact ht rfl
  refine ⟨⟨S, h1, h2.other t fun b hb hm => ?_⟩, by rw [heap_setCell_same _ _ _ _ _ _ h.row]; rfl, ⟨(hne b1 _ _ (by decide) h.log.row).trans h.log.row, ownsRow_kept h.log.recs fun j hj => by obtain ⟨cur, hc⟩ := ownsRow_tag h.log.recs hj; exact hne j _ _ (by decide) hc, h.log.apart, h.log.ge⟩, h.below.setCell hg _⟩
  subst hb
  obtain ⟨_, o, ho, hk⟩ := hm
  rw [h.row] at ho
  cases ho
  simp [dkind] at hk
/-- A disk that is settled, copied. -/
theorem strClone {w W : World} {K : Nat} {a : A} (h : Dw w w.heap.size K a W) (hf : Firm a.files) (hfall : a.fall = none) (hK : K ≤ 100) :
    Calls Tryz.prog 34 #[.pointer (some ⟨w.heap.size, 0, none⟩)] W fun e W' => ∃ c, e = .returned (.pointer (some ⟨c, 0, none⟩)) ∧ Dw W c (2 * K) a W' ∧ Dw w w.heap.size K a W' := by
  obtain ⟨S, hS, hD⟩ := h.disk
  have hc := hD.count
  refine (cloneDisk_any w.heap.size K w.heap.size S W hD (fun F hF => (hf F.a (by rw [← hS, ← hD.same]; exact List.mem_map.2 ⟨F, hF, rfl⟩)).2) (by rw [hS]; exact hfall) (by omega)).mono ?_
  rintro e W' ⟨c, T, he, hT, hD', hb⟩
  exact ⟨c, he, ⟨⟨T, hT.trans hS, hD'.mono (by omega) (by omega)⟩, hb⟩, h.under hb⟩
/-- What the second loop keeps. -/
def Wf (w : World) (K B b1 c1 : Nat) (l : Lg) (rv : Value) (W : World) : Prop := ∃ a, Js l a ∧ Dw w w.heap.size K a W ∧ LogAt TLog B b1 c1 l rv W
/-- The last opening. -/
theorem strLast {w W : World} {K B b1 c1 : Nat} {a : A} {l : Lg} {rv : Value} (hJ : Js l a) (hD : Dw w w.heap.size K a W) (hL : LogAt TLog B b1 c1 l rv W) (hv : Vars w) (hr : l.recs.length ≤ 1000000) (hK : K + a.files.length ≤ 4980) :
    Calls Tryz.prog 10 #[.pointer (some ⟨w.heap.size, 0, none⟩), .int .i64 100] W fun e W' => ∃ (b2 : Nat) (rv2 : Value) (tm : Int), e = .returned (.tuple #[.pointer (some ⟨b2, 0, none⟩), .int .i64 tm, .int .i64 0]) ∧ LogAt TLog W.heap.size b2 w.heap.size l rv2 W' ∧ LogAt TLog B b1 c1 l rv W' ∧ Below w.heap.size w W' := by
  obtain ⟨S, hS, hDS⟩ := hD.disk
  have := walOpen_all w.heap.size K w.heap.size S 100 W hDS (Vars.below hv hD.below) hD.below.size hv.size (by rw [hS]; exact hK) (by decide) (by rw [hS]; exact hJ.down) (by rw [hS]; exact hJ.sm) (by rw [hS]; exact hJ.few) (by rw [hS, hJ.gath]; exact hr)
  rw [hS, hJ.gath] at this
  obtain ⟨a4, tn, ho, -⟩ := hJ.calm.openIs 100
  refine this.mono ?_
  rintro e W' ⟨⟨_, h2, _⟩ | ⟨b, rv2, he, hL2, _, _⟩, _, hk⟩
  · rw [ho] at h2
    cases h2
  · exact ⟨b, rv2, _, he, hL2, hL.dsk hk, hD.below.trans (hk.below hD.below.size)⟩
/-- The numbers of a log's segments. -/
def segsOf (l : Lg) : List Nat := if l.last = 0 then [] else List.range' l.first (l.last - l.first + 1)
theorem segs_len {l : Lg} (h : Segd l) : (segsOf l).length ≤ 1000000 := by
  unfold segsOf
  rcases h with h | ⟨h1, h2, h3⟩
  · rw [if_pos h]; exact Nat.zero_le _
  · rw [if_neg (by omega), List.length_range']; omega
theorem segsAny {B b d : Nat} {l : Lg} {rv : Value} {W : World} (h : LogAt TLog B b d l rv W) (hs : Segd l) :
    Calls Tryz.prog 23 #[.pointer (some ⟨b, 0, none⟩)] W fun e W' => ∃ v, e = .returned v ∧ Ints W' v (segsOf l) ∧ Below W.heap.size W W' := by
  unfold segsOf
  rcases hs with h0 | ⟨h1, h2, h3⟩
  · rw [if_pos h0]
    refine (segments0_any B b d l rv W h h0).mono ?_
    rintro e W' ⟨he, rfl⟩
    exact ⟨_, he, ⟨none, 0, rfl, Nat.le_refl _, fun j x hj => by simp at hj⟩, Below.refl _ _⟩
  · rw [if_neg (by omega)]
    exact segments_any B b d l rv W h h1 h2 h3
end Go.Proofs.YtoineobjmllicaaGreatDoor
