/- Several texts in one: WalPlay, WalNums. -/
import Derived.Test.YtoineobjmllicaaGreatDoorWlFour
import Derived.Test.YtoineobjmllicaaGreatDoorWlOne
/- A disk, a log on it, and rows of texts beside them: what opening, adding and telling leave. -/
namespace Go.Wal
open Go.RowKit Go.Dk
/-- A disk and a log of it, and the world in which they were begun. -/
structure Pw (P : Program) (T : Nat) (w : World) (d K b : Nat) (a : A) (l : Lg) (rv : Value) (W : World) : Prop where
  disk : ∃ S : WD, S.a = a ∧ DiskAt P (fun _ => True) w.heap.size K d W S
  log : LogAt T w.heap.size b d l rv W
  below : Below w.heap.size w W
theorem Pw.under {P : Program} {T : Nat} {w W W' : World} {d K b : Nat} {a : A} {l : Lg} {rv : Value} (h : Pw P T w d K b a l rv W) (k : Below W.heap.size W W') : Pw P T w d K b a l rv W' := by
  obtain ⟨S, h1, h2⟩ := h.disk
  exact ⟨⟨S, h1, h2.below k⟩, h.log.below k, h.below.trans (k.mono h.below.size)⟩
/-- A row of texts of one's own, that is not the log's. -/
structure Mr (w : World) (rv mv : Value) (m : List Bs) (W : World) : Prop where
  own : W.ownsRow w.heap.size 9 1 mv m.length (tv m)
  apart : ∀ g, mv.ownBlock = some g → rv.ownBlock ≠ some g
theorem Mr.under {w W W' : World} {rv mv : Value} {m : List Bs} (h : Mr w rv mv m W) (k : Below W.heap.size W W') : Mr w rv mv m W' := ⟨own_below h.own k, h.apart⟩
theorem Mr.texts {w W : World} {rv mv : Value} {m : List Bs} (h : Mr w rv mv m W) : Texts W mv m := Texts.of_own h.own
theorem Mr.dsk {M : Nat → Prop} {w W W' : World} {rv mv : Value} {m : List Bs} {base : Nat} (h : Mr w rv mv m W) (k : Dsk M base W W') : Mr w rv mv m W' :=
  ⟨ownsRow_kept h.own fun g hg => by
    obtain ⟨cur, hc⟩ := ownsRow_tag h.own hg
    exact (box_kept k hc (by simp [dkind])).trans hc.symm, h.apart⟩
theorem Mr.lds {M : Nat → Prop} {w W W' : World} {rv rv' mv : Value} {m : List Bs} {base b : Nat} {o : Obj} (h : Mr w rv mv m W) (hb : W.heap[b]? = some o) (ho : ∀ cs, o ≠ .cells cs 9 (0, 0)) (k : Lds M base b rv W W') (s : Since W rv rv') : Mr w rv' mv m W' := by
  refine ⟨ownsRow_kept h.own fun g hg => ?_, fun g hg e => ?_⟩
  · obtain ⟨cur, hc⟩ := ownsRow_tag h.own hg
    refine k.block g (block_lt hc) ?_
    rintro (⟨_, o', ho', hk⟩ | e | e)
    · rw [hc] at ho'; cases ho'; simp [dkind] at hk
    · subst e; rw [hc] at hb; cases hb; exact ho cur rfl
    · exact h.apart g hg e
  · rcases s g e with e' | e'
    · exact h.apart g hg e'
    · obtain ⟨cur, hc⟩ := ownsRow_tag h.own hg
      have := block_lt hc
      omega
theorem Mr.fresh {w W0 W : World} {rv mv : Value} {m : List Bs} {T b d base : Nat} {l : Lg} (hl : LogAt T base b d l rv W0) (h : W.ownsRow W0.heap.size 9 1 mv m.length (tv m)) (hw : w.heap.size ≤ W0.heap.size) : Mr w rv mv m W :=
  ⟨own_mono h hw, fun g hg e => by
    have h1 := ownsRow_ge h hg
    obtain ⟨cur, hc⟩ := ownsRow_tag hl.recs e
    have := block_lt hc
    omega⟩
/-- A row of numbers of one's own. -/
def Sr (w : World) (v : Value) (U : List Nat) (W : World) : Prop := W.ownsRow w.heap.size 3 1 v U.length (iv U)
theorem Sr.under {w W W' : World} {v : Value} {U : List Nat} (h : Sr w v U W) (k : Below W.heap.size W W') : Sr w v U W' := own_below h k
theorem Sr.dsk {M : Nat → Prop} {w W W' : World} {v : Value} {U : List Nat} {base : Nat} (h : Sr w v U W) (k : Dsk M base W W') : Sr w v U W' :=
  ownsRow_kept h fun g hg => by
    obtain ⟨cur, hc⟩ := ownsRow_tag h hg
    exact (box_kept k hc (by simp [dkind])).trans hc.symm
theorem Sr.lds {M : Nat → Prop} {w W W' : World} {rv v : Value} {U : List Nat} {base base' b d T : Nat} {l : Lg} (h : Sr w v U W) (hl : LogAt T base' b d l rv W) (hT : T ≠ 3) (k : Lds M base b rv W W') : Sr w v U W' :=
  ownsRow_kept h fun g hg => by
    obtain ⟨cur, hc⟩ := ownsRow_tag h hg
    refine k.block g (block_lt hc) ?_
    rintro (⟨_, o', ho', hk⟩ | e | e)
    · rw [hc] at ho'; cases ho'; simp [dkind] at hk
    · subst e
      have := hl.row
      rw [hc] at this
      cases this
      exact hT rfl
    · obtain ⟨cur', hc'⟩ := ownsRow_tag hl.recs e
      rw [hc] at hc'
      cases hc'
theorem logOf_bounds {fs : List AF} {first most : Nat} {cs : List (List Bs)} (h : Img fs first cs) (hm : most ≤ 256) (hr : cs.flatten.length ≤ 10000) : (logOf most first cs).first ≤ 2000000 ∧ (logOf most first cs).last ≤ 2000000 ∧ (logOf most first cs).size ≤ 1000000000 ∧ (logOf most first cs).most ≤ 9223372036854775807 ∧ (logOf most first cs).recs.length ≤ 1000000 := by
  have hf := h.few
  by_cases hc : cs = []
  · subst hc
    refine ⟨by simp [logOf], by simp [logOf], by simp [logOf], ?_, by simp [logOf]⟩
    show most ≤ _
    omega
  · rw [logOf_ne hc]
    have hlast : (frs (cs.getLastD [])).length ≤ 2000 := by
      obtain ⟨ys, y, rfl⟩ : ∃ ys y, cs = ys ++ [y] := ⟨cs.dropLast, cs.getLast hc, (List.dropLast_concat_getLast hc).symm⟩
      have := h.size y (by simp)
      simpa using this
    exact ⟨by show first ≤ _; omega, by show first + cs.length - 1 ≤ _; omega, by show 17 + _ ≤ _; omega, by show most ≤ _; omega, by show cs.flatten.length ≤ _; omega⟩
theorem logOf_recs (most first : Nat) (cs : List (List Bs)) : (logOf most first cs).recs = cs.flatten := by
  by_cases hc : cs = []
  · subst hc; rfl
  · rw [logOf_ne hc]
end Go.Wal
namespace Go.Proofs.YtoineobjmllicaaGreatDoor
open Go.RowKit Go.Dk Go.Wal
theorem slice_own {w W : World} {rv : Value} {x : List Bs} {g n c : Nat} (h : Mr w rv (.slice (some ⟨g, 0, none⟩) n c) x W) : n = x.length := by
  rcases h.own.2 with ⟨e, _⟩ | ⟨_, _, _, e, _⟩
  · cases e
  · cases e; rfl
/-- Add, of records that are not too many. -/
theorem playAdd (w : World) (hv : Vars w) (d K b most first : Nat) (cs : List (List Bs)) (a : A) (rv : Value) (x : List Bs) (g c : Nat) (W : World) (h : Pw Tryz.prog TLog w d K b a (logOf most first cs) rv W) (ho : Ok a first cs) (hx : Mr w rv (.slice (some ⟨g, 0, none⟩) x.length c) x W)
    (hm : most ≤ 256) (hx2 : ∀ r ∈ x, r.length ≤ 200) (hxl : x.length ≤ 6) (hfew : first + cs.length ≤ 900) (hrec : cs.flatten.length ≤ 10000) (hK : K + 1 ≤ 5000) :
    Calls Tryz.prog 18 #[.pointer (some ⟨b, 0, none⟩), .slice (some ⟨g, 0, none⟩) x.length c] W fun e W' =>
      ∃ rv', ((e = .returned (.int .i64 61) ∧ 0 ≤ a.room ∧ Pw Tryz.prog TLog w d (K + 1) b a (logOf most first cs) rv' W') ∨
        (∃ a', e = .returned (.int .i64 0) ∧ Pw Tryz.prog TLog w d (K + 1) b a' (logOf most (addS most first cs x).1 (addS most first cs x).2) rv' W' ∧ Ok a' (addS most first cs x).1 (addS most first cs x).2 ∧ a'.room = a.room ∧ (addS most first cs x).1 + (addS most first cs x).2.length ≤ first + cs.length + 1)) ∧
        (∀ mv m, Mr w rv mv m W → Mr w rv' mv m W') ∧ (∀ v U, Sr w v U W → Sr w v U W') := by
  obtain ⟨S, hS, hD⟩ := h.disk
  have hz := frs_len x hx2
  have := add_any (M := fun _ => True) (fun _ => trivial) w.heap.size w.heap.size K b d S (logOf most first cs) rv (.slice (some ⟨g, 0, none⟩) x.length c) x W hD (Vars.below hv h.below) h.log hx.texts (fun w' k => (hx.dsk k).texts) (fun n c e => by cases e) h.below.size h.below.size hK (logOf_bounds ho.img hm hrec) (fun t ht => by have := hx2 t ht; omega) (by omega) (by omega)
  rw [hS] at this
  refine this.mono ?_
  rintro e W' ⟨he, ⟨rv', hL', hs'⟩, hT', hk⟩
  have hbel : Below w.heap.size w W' := h.below.trans (h.log.keeps hk h.below.size)
  have hmr : (∀ mv m, Mr w rv mv m W → Mr w rv' mv m W') ∧ (∀ v U, Sr w v U W → Sr w v U W') := ⟨fun mv m hm' => hm'.lds h.log.row (fun cs e => by cases e) hk hs', fun v U hu => hu.lds h.log (by decide) hk⟩
  rcases ho.add most x hm hx2 hxl hfew with ⟨e1, e2⟩ | ⟨a', e1, e2, e3, e4⟩
  · rw [e1] at he hL' hT'
    exact ⟨rv', .inl ⟨he, e2, ⟨hT', hL', hbel⟩⟩, hmr⟩
  · rw [e1] at he hL' hT'
    exact ⟨rv', .inr ⟨a', he, ⟨hT', hL', hbel⟩, e2, e3, e4⟩, hmr⟩
/-- Open, of what a log left. -/
theorem playOpen (w : World) (hv : Vars w) (d K most first : Nat) (cs : List (List Bs)) (a : A) (W : World) (hD : ∃ S : WD, S.a = a ∧ DiskAt Tryz.prog (fun _ => True) w.heap.size K d W S) (hb : Below w.heap.size w W) (ho : Ok a first cs) (hm : 1 ≤ most) (hrec : cs.flatten.length ≤ 10000) (hK : K + cs.length ≤ 4980) :
    Calls Tryz.prog 10 #[.pointer (some ⟨d, 0, none⟩), .int .i64 most] W fun e W' => ∃ b rv, e = .returned (.tuple #[.pointer (some ⟨b, 0, none⟩), .int .i64 0, .int .i64 0]) ∧ Pw Tryz.prog TLog w d (K + cs.length + 1) b a (logOf most first cs) rv W' ∧
      (∀ rv0 mv m, Mr w rv0 mv m W → Mr w rv mv m W') ∧ (∀ v U, Sr w v U W → Sr w v U W') := by
  obtain ⟨S, hS, hD⟩ := hD
  have h5 : 5 ≤ w.heap.size := hv.size
  have := walOpen_any (M := fun _ => True) (fun _ => trivial) w.heap.size K d S most W hD (Vars.below hv hb) hb.size h5 (by rw [hS, ho.img.count]; exact hK) hm (by rw [hS]; exact ho.down) (by rw [hS]; exact ho.img.sm) (by rw [hS]; exact ho.img.fews) (by rw [hS, ho.img.gather, logOf_recs]; omega)
  rw [hS, ho.openIs, ho.img.gather, ho.img.count] at this
  refine this.mono ?_
  rintro e W' ⟨⟨_, h2, _⟩ | ⟨b, rv, he, hL, _, _⟩, hT, hk⟩
  · cases h2
  · refine ⟨b, rv, he, ⟨hT, hL.mono hb.size, hb.trans (hk.below hb.size)⟩, fun rv0 mv m hm' => ⟨(hm'.dsk hk).own, fun g hg e => ?_⟩, fun v U hu => hu.dsk hk⟩
    have h1 := ownsRow_ge hL.recs e
    obtain ⟨cur, hc⟩ := ownsRow_tag hm'.own hg
    have := block_lt hc
    omega
/-- All, of a log. -/
theorem playAll (w : World) (d K b : Nat) (a : A) (l : Lg) (rv : Value) (W : World) (h : Pw Tryz.prog TLog w d K b a l rv W) (hr : l.recs.length ≤ 1000000) :
    Calls Tryz.prog 20 #[.pointer (some ⟨b, 0, none⟩)] W fun e W' => ∃ v, e = .returned v ∧ Texts W' v l.recs ∧ Below W.heap.size W W' :=
  (allRecs_any w.heap.size b d l rv W h.log hr).mono fun _ _ ⟨v, he, ho, hb⟩ => ⟨v, he, Texts.of_own ho, hb⟩
/-- Reset, of records that are not too many. -/
theorem playReset (w : World) (hv : Vars w) (d K b most first : Nat) (cs : List (List Bs)) (a : A) (rv : Value) (x : List Bs) (g c : Nat) (W : World) (h : Pw Tryz.prog TLog w d K b a (logOf most first cs) rv W) (ho : Ok a first cs) (hx : Mr w rv (.slice (some ⟨g, 0, none⟩) x.length c) x W)
    (hr : ¬ 0 ≤ a.room) (hx2 : ∀ r ∈ x, r.length ≤ 200) (hxl : x.length ≤ 6) (hfew : first + cs.length ≤ 900) (hfirst : cs = [] → first = 1) (hK : K + 3 + cs.length ≤ 4990) :
    Calls Tryz.prog 13 #[.pointer (some ⟨b, 0, none⟩), .slice (some ⟨g, 0, none⟩) x.length c] W fun e W' =>
      ∃ rv' a', e = .returned (.int .i64 0) ∧ Pw Tryz.prog TLog w d (K + 3 + cs.length) b a' (logOf most (first + cs.length) [x]) rv' W' ∧ Ok a' (first + cs.length) [x] ∧ a'.room = a.room ∧
        (∀ mv m, Mr w rv mv m W → Mr w rv' mv m W') ∧ (∀ v U, Sr w v U W → Sr w v U W') := by
  obtain ⟨S, hS, hD⟩ := h.disk
  have h5 : 5 ≤ w.heap.size := hv.size
  have hz := frs_len x hx2
  have hl1 := logOf_last most first cs hfirst ho.img.pos
  obtain ⟨a3, hlay, hM, _, h3d, _⟩ := ho.lay x hr hfew
  have hcnt := hM.count (by omega)
  have hl2 : (logOf most first cs).last ≤ 2000000 := by omega
  have := reset_any (M := fun _ => True) (fun _ => trivial) w.heap.size w.heap.size K b d S (logOf most first cs) rv (.slice (some ⟨g, 0, none⟩) x.length c) x W hD (Vars.below hv h.below) h.log hx.texts (fun w' k => (hx.dsk k).texts) ⟨_, _, rfl, .inr ⟨_, _, rfl⟩⟩ h.below.size h.below.size h5 h5 (by omega) hl2 (fun t ht => by have := hx2 t ht; omega) (by omega) (by omega)
    (by rw [hS, hl1, hlay]; intro _; exact ⟨h3d, hM.sm ho.img.size (by omega), by show K + 2 + a3.files.length ≤ 4990; omega⟩) (K + 3 + cs.length) (by rw [hS, hl1, hlay]; intro _; show K + 2 + a3.files.length ≤ _; omega) (by omega) (by omega)
  obtain ⟨a', e1, e2, e3⟩ := ho.reset most x hr hx2 hxl hfew hfirst
  rw [hS, e1] at this
  refine this.mono ?_
  rintro e W' ⟨he, ⟨rv', hL', hs'⟩, hT', hk⟩
  exact ⟨rv', a', he, ⟨hT', hL', h.below.trans (h.log.keeps hk h.below.size)⟩, e2, e3, fun mv m hm' => hm'.lds h.log.row (fun cs e => by cases e) hk hs', fun v U hu => hu.lds h.log (by decide) hk⟩
/-- Crash, and Up. -/
theorem playCrash (w : World) (d K b : Nat) (a : A) (l : Lg) (rv : Value) (keep torn : Int) (W : World) (h : Pw Tryz.prog TLog w d K b a l rv W) :
    Calls Tryz.prog 16 #[.pointer (some ⟨d, 0, none⟩), .int .i64 keep, .int .i64 torn] W fun e W' => e = .returned (.tuple #[]) ∧ Pw Tryz.prog TLog w d K b (a.crash keep torn) l rv W' ∧ (∀ mv m, Mr w rv mv m W → Mr w rv mv m W') ∧ (∀ v U, Sr w v U W → Sr w v U W') := by
  obtain ⟨S, hS, hD⟩ := h.disk
  refine (crash_op w.heap.size K d S keep torn W hD h.below.size).mono ?_
  rintro e W' ⟨he, T, hT, hD', hk⟩
  exact ⟨he, ⟨⟨T, by rw [hT, hS], hD'⟩, h.log.dsk hk, h.below.trans (hk.below h.below.size)⟩, fun mv m hm => hm.dsk hk, fun v U hu => hu.dsk hk⟩
theorem playUp (w : World) (d K b : Nat) (a : A) (l : Lg) (rv : Value) (W : World) (h : Pw Tryz.prog TLog w d K b a l rv W) :
    Calls Tryz.prog 17 #[.pointer (some ⟨d, 0, none⟩)] W fun e W' => (∃ x, e = .returned (.bool x)) ∧ Pw Tryz.prog TLog w d K b { a with down := false } l rv W' ∧ (∀ mv m, Mr w rv mv m W → Mr w rv mv m W') ∧ (∀ v U, Sr w v U W → Sr w v U W') := by
  obtain ⟨S, hS, hD⟩ := h.disk
  refine (up_op w.heap.size K d S W hD).mono ?_
  rintro e W' ⟨he, T, hT, hD', hk⟩
  exact ⟨⟨_, he⟩, ⟨⟨T, by rw [hT, hS], hD'⟩, h.log.dsk hk, h.below.trans (hk.below h.below.size)⟩, fun mv m hm => hm.dsk hk, fun v U hu => hu.dsk hk⟩
/-- Names, by how many they are. -/
theorem playNames (w : World) (d K b : Nat) (a : A) (l : Lg) (rv : Value) (W : World) (h : Pw Tryz.prog TLog w d K b a l rv W) :
    Calls Tryz.prog 24 #[.pointer (some ⟨d, 0, none⟩)] W fun e W' => (∃ va vc, e = .returned (.slice va a.files.length vc)) ∧ Below W.heap.size W W' := by
  obtain ⟨S, hS, hD⟩ := h.disk
  refine (names_any w.heap.size K d S W hD).mono ?_
  rintro e W' ⟨v, he, ho, hb⟩
  obtain ⟨va, vc, hv⟩ := own_form ho
  have hl : S.fs.length = a.files.length := by rw [← hS, ← hD.same, List.length_map]
  exact ⟨⟨va, vc, by rw [he, hv, hl]⟩, hb⟩
end Go.Proofs.YtoineobjmllicaaGreatDoor
/- Contracts: how many bytes frames have; the same numbers?; the numbers of a log's segments. -/
namespace Go.Wal
open Go.RowKit Go.Dk
/-- A slice value of numbers. -/
def Ints (w : World) (v : Value) (U : List Nat) : Prop :=
  ∃ a c, v = .slice a U.length c ∧ U.length ≤ c ∧ ∀ (j x : Nat), U[j]? = some x → ∃ b off, a = some ⟨b, off, none⟩ ∧ w.cell? ⟨b, off + j, none⟩ = some (.int .i64 (x : Int))
theorem Ints.below {w w' : World} {v : Value} {U : List Nat} (h : Ints w v U) (hb : Below w.heap.size w w') : Ints w' v U := by
  obtain ⟨a, c, h1, h2, h3⟩ := h
  refine ⟨a, c, h1, h2, fun j x hj => ?_⟩
  obtain ⟨b, off, h4, h5⟩ := h3 j x hj
  exact ⟨b, off, h4, (hb.cell (p := ⟨b, off + j, none⟩) (cell_lt h5)).trans h5⟩
theorem Ints.of_own {w : World} {base : Nat} {v : Value} {U : List Nat} (h : w.ownsRow base 3 1 v U.length (iv U)) : Ints w v U := by
  obtain ⟨a, c, rfl⟩ := own_form h
  have := RowIs.of_own (n0 := base) h (Nat.le_refl _)
  refine ⟨a, c, rfl, ?_, fun j x hj => ?_⟩
  · rcases h.2 with ⟨h1, h2⟩ | ⟨g, cap, cur, h1, _, _, h4, _⟩
    · omega
    · cases h1; exact h4
  · obtain ⟨g, cs, h1, _, _, h4, h5⟩ := this j x hj
    exact ⟨g, 0, h1, by rw [Nat.zero_add, cell_of_row _ _ _ _ _ _ h4]; exact h5⟩
theorem ints_at {w : World} {a : Option Addr} {n c : Nat} {U : List Nat} (h : Ints w (.slice a n c) U) {j x : Nat} (hj : U[j]? = some x) : ∃ b off, a = some ⟨b, off, none⟩ ∧ U.length ≤ c ∧ w.cell? ⟨b, off + j, none⟩ = some (.int .i64 (x : Int)) := by
  obtain ⟨a', c', h1, h2, h3⟩ := h
  cases h1
  obtain ⟨b, off, h4, h5⟩ := h3 j x hj
  exact ⟨b, off, h4, h2, h5⟩
theorem frsLen_take (ls : List Bs) (i : Nat) (l : Bs) (h : ls[i]? = some l) : (frs (ls.take (i + 1))).length = (frs (ls.take i)).length + (17 + l.length) := by
  rw [List.take_add_one, h]
  show (frs (ls.take i ++ [l])).length = _
  rw [frs_append, List.length_append]
  show _ + (fr (114 :: l) ++ frs []).length = _
  rw [List.length_append, fr_length]
  show _ + (16 + (l.length + 1) + 0) = _
  omega
end Go.Wal
namespace Go.Proofs.YtoineobjmllicaaGreatDoor
open Go.RowKit Go.Dk Go.Wal
set_option maxRecDepth 100000 in
set_option maxHeartbeats 1000000 in
theorem lawBytes_any (v : Value) (ls : List Bs) (w : World) (h : Texts w v ls) (hs : ∀ l ∈ ls, l.length ≤ 1000) (hn : ls.length ≤ 1000) :
    Calls Tryz.prog 15 #[v] w fun e w' => e = .returned (.int .i64 ((frs ls).length : Nat)) ∧ Below w.heap.size w w' := by
  obtain ⟨a, c, rfl, hc⟩ := texts_form h
  have HT := hide h
  have HS := hide hs
  clear h hs
  go_enter Tryz.func15, Tryz.ntmps15
  go_wp2
  go_loopw [3, 4] (fun vn vi wr => ∃ i k : Nat, i ≤ ls.length ∧ k ≤ 1017 * i ∧ vi = .int .i64 i ∧ vn = .int .i64 k ∧ Hid ((frs (ls.take i)).length = k) ∧ Hid (Below w.heap.size w wr)) (fun _ vi _ => ls.length - (intOf vi).toNat)
  case atStart => exact ⟨0, 0, Nat.zero_le _, Nat.zero_le _, rfl, rfl, rfl, Below.refl _ _⟩
  case round =>
    obtain ⟨i, k, hi, hk, rfl, rfl, HK, HW⟩ := hrel
    by_cases hlt : i < ls.length
    · have hlt' : (i : Int) < ls.length := by omega
      obtain ⟨l, hl⟩ : ∃ l, ls[i]? = some l := ⟨_, List.getElem?_eq_getElem hlt⟩
      obtain ⟨b, off, rfl, _, q⟩ := texts_at (HT.out.below HW.out) hl
      have hll := HS.out l (List.mem_of_getElem? hl)
      have HN := hide (frsLen_take ls i l hl)
      have hz : (⟨l.toArray⟩ : ByteArray).size = l.length := ba_size l
      have hz2 : ((⟨#[114]⟩ : ByteArray) ++ ⟨l.toArray⟩).size = 1 + l.length := by rw [ByteArray.size_append, hz]; rfl
      have HF : Hid (∀ W, Calls Tryz.prog 14 #[.string ((⟨#[114]⟩ : ByteArray) ++ ⟨l.toArray⟩)] W fun e w' => (∃ f : ByteArray, f.size = 17 + l.length ∧ e = .returned (.string f)) ∧ Below W.heap.size W w') := fun W => (rframe_any _ W (by omega)).mono fun _ _ ⟨he, hb⟩ => ⟨⟨_, by rw [Wire.frameB_size, hz2]; omega, he⟩, hb⟩
      clear hl hz2
      generalize (⟨l.toArray⟩ : ByteArray) = X at *
      generalize l.length = n at *
      go_wp2_with (go_at_call 14; refine (HF.out _).mono ?_; rintro e w1 ⟨⟨f, hf, rfl⟩, hb⟩; have HB := hide (HW.out.trans (hb.mono HW.out.size)); clear hb)
      go_roundw
      case rel => exact ⟨i + 1, k + (17 + n), by omega, by omega, by go_num, by first | rfl | go_num, by have h1 := HN.out; have h2 := HK.out; show _ = _; omega, HB.out⟩
      case measure => simp [intOf]; omega
    · have hie : i = ls.length := by omega
      have HE : Hid ((frs ls).length = k) := by have := HK.out; rw [hie, List.take_length] at this; exact this
      have hlt' : ¬ ((i : Int) < ls.length) := by omega
      go_wp2
      go_ret
      rw [HE.out]
      exact ⟨rfl, HW.out⟩
set_option maxRecDepth 100000 in
set_option maxHeartbeats 1000000 in
theorem numbers_any (va vb : Value) (la lb : List Nat) (w : World) (ha : Ints w va la) (hb : Ints w vb lb) (hla : la.length ≤ 1000000) :
    Calls Tryz.prog 22 #[va, vb] w fun e w' => e = .returned (.bool (decide (la = lb))) ∧ Below w.heap.size w w' := by
  obtain ⟨aa, ca, rfl, hca, _⟩ := id ha
  obtain ⟨ab, cb, rfl, hcb, _⟩ := id hb
  have HA := hide ha
  have HB := hide hb
  clear ha hb
  by_cases hlen : la.length = lb.length
  · have hlen' : (la.length : Int) = lb.length := by omega
    go_enter Tryz.func22, Tryz.ntmps22
    go_wp2
    go_loopw [5] (fun vi wr => ∃ i : Nat, i ≤ la.length ∧ vi = .int .i64 i ∧ Hid (la.take i = lb.take i) ∧ Hid (Below w.heap.size w wr)) (fun vi _ => la.length - (intOf vi).toNat)
    case atStart => exact ⟨0, Nat.zero_le _, rfl, rfl, Below.refl _ _⟩
    case round =>
      obtain ⟨i, hi, rfl, HT, HW⟩ := hrel
      by_cases hlt : i < la.length
      · have hlt2 : i < lb.length := by omega
        have hlt' : (i : Int) < la.length := by omega
        have e1 := List.getElem?_eq_getElem hlt
        have e2 := List.getElem?_eq_getElem hlt2
        generalize la[i] = x at *
        generalize lb[i] = y at *
        obtain ⟨b1, o1, rfl, hc1, q1⟩ := ints_at (HA.out.below HW.out) e1
        obtain ⟨b2, o2, rfl, hc2, q2⟩ := ints_at (HB.out.below HW.out) e2
        by_cases hxy : x = y
        · have HN := hide (take_next_eq HT.out e1 e2 hxy)
          subst hxy
          clear e1 e2
          go_wp2_with fail
          go_quiet (fail)
          go_wp2
          go_roundw
          case rel => exact ⟨i + 1, by omega, by go_num, HN.out, HW.out.trans ((under_drewN wr nq).mono HW.out.size)⟩
          case measure => simp [intOf]; omega
        · have HE : Hid (la ≠ lb) := fun e => hxy (by rw [e, e2] at e1; cases e1; rfl)
          have hne : ((x : Int) != (y : Int)) = true := bne_iff_ne.2 (by omega)
          clear e1 e2
          go_wp2_with fail
          go_quiet (fail)
          go_wp2
          go_ret
          rw [decide_eq_false HE.out]
          exact ⟨rfl, HW.out.trans ((under_drewN wr nq).mono HW.out.size)⟩
      · have hie : i = la.length := by omega
        have HE : Hid (la = lb) := by
          have := HT.out
          rw [hie, List.take_length] at this
          rw [List.take_of_length_le (by omega)] at this
          exact this
        have hlt' : ¬ ((i : Int) < la.length) := by omega
        clear HT
        go_wp2
        go_ret
        rw [decide_eq_true HE.out]
        exact ⟨rfl, HW.out⟩
  · have HE : Hid (la ≠ lb) := fun e => hlen (by rw [e])
    have hlen' : ¬ ((la.length : Int) = lb.length) := by omega
    have hlen2 : ((la.length : Int) != lb.length) = true := bne_iff_ne.2 hlen'
    go_enter Tryz.func22, Tryz.ntmps22
    go_wp2
    go_ret
    rw [decide_eq_false HE.out]
    exact ⟨rfl, Below.refl _ _⟩
theorem range_snoc (f i : Nat) : List.range' f (i + 1) = List.range' f i ++ [f + i] := List.range'_1_concat
theorem iv_snoc (U : List Nat) (x : Nat) : iv (U ++ [x]) = iv U ++ [.int .i64 (x : Int)] := by unfold iv; exact List.map_append
set_option maxRecDepth 100000 in
set_option maxHeartbeats 1000000 in
theorem segments_any (base b d : Nat) (l : Lg) (rv : Value) (w : World) (h : LogAt TLog base b d l rv w) (h1 : 1 ≤ l.first) (h2 : l.first ≤ l.last) (h3 : l.last ≤ 100000) :
    Calls Tryz.prog 23 #[.pointer (some ⟨b, 0, none⟩)] w fun e w' => ∃ v, e = .returned v ∧ Ints w' v (List.range' l.first (l.last - l.first + 1)) ∧ Below w.heap.size w w' := by
  obtain ⟨i3, hi3, hz0, hz1, hz2⟩ := info_parts info_int
  obtain ⟨_, _, _, c3, c4, _⟩ := h.cells
  have HL := hide h
  have hl0 : ((l.last : Int) == 0) = false := beq_eq_false_iff_ne.2 (by omega)
  obtain ⟨n, hn⟩ : ∃ n, l.last - l.first + 1 = n := ⟨_, rfl⟩
  have hsub : ((l.last : Int) - l.first + 1) = (n : Int) := by omega
  have hn1 : n ≤ 100000 := by omega
  have hfl : l.first + n ≤ 100001 := by omega
  rw [hn]
  clear h hn
  generalize l.first = f at *
  generalize l.last = lst at *
  have hmk : (Instr.makeSlice 31 (.int .i64 0) (.int .i64 (n : Int))).run Tryz.prog w.drew = .ok (.slice (some ⟨w.heap.size, 0, none⟩) 0 n) (w.drew.alloc (.cells (madeCells #[Value.int .i64 0] n) 3)) := by
    have := run_make (P := Tryz.prog) w.drew 31 3 i3 (.int .i64 0) under_ints hi3 hz0 .i64 .i64 0 n (Int.le_refl _) (by omega) (by rw [hz2]; omega) (by omega)
    rw [hz1, Int.toNat_natCast, Nat.mul_one] at this
    exact this
  have HOWN : Hid ((w.drew.alloc (.cells (madeCells #[Value.int .i64 0] n) 3)).ownsRow w.heap.size 3 1 (.slice (some ⟨w.heap.size, 0, none⟩) 0 n) 0 []) := World.ownsRow_made w.drew _ n (Nat.le_refl _) (by unfold maxLen; omega) (by rw [Nat.mul_one]; exact size_madeCells _ _)
  have hbl : b < w.heap.size := block_lt HL.out.row
  obtain ⟨W1, hW1⟩ : ∃ W1, w.drew.alloc (.cells (madeCells #[Value.int .i64 0] n) 3) = W1 := ⟨_, rfl⟩
  have HB1 : Hid (Below w.heap.size w W1) := by rw [← hW1]; exact (Below.drew (Below.refl _ w)).alloc (Nat.le_refl _) _
  rw [hW1] at hmk HOWN
  clear hW1
  have HC3 := hide c3
  have d3 := (HB1.out.cell (p := ⟨b, 3, none⟩) hbl).trans c3
  have d4 := (HB1.out.cell (p := ⟨b, 4, none⟩) hbl).trans c4
  go_enter Tryz.func23, Tryz.ntmps23
  go_wp2_with fail
  go_region
  all_goals
    go_wp2_with fail
    go_quiet (fail)
  all_goals
    go_wp2_with fail
    clear c3 c4 d3 d4 hmk
    go_loopw [3, 35] (fun vo vi wr => ∃ i g c : Nat, i ≤ n ∧ vi = .int .i64 i ∧ vo = .slice (some ⟨g, 0, none⟩) i c ∧ Hid (wr.ownsRow w.heap.size 3 1 (.slice (some ⟨g, 0, none⟩) i c) i (iv (List.range' f i)) ∧ Below w.heap.size w wr)) (fun _ vi _ => n - (intOf vi).toNat)
    case atStart => exact ⟨0, w.heap.size, n, Nat.zero_le _, rfl, rfl, HOWN.out, HB1.out.trans ((under_drewN W1 nq).mono HB1.out.size)⟩
    case round =>
      obtain ⟨i, g, c, hi, rfl, rfl, HH⟩ := hrel
      have e3 : wr.cell? ⟨b, 3, none⟩ = some (.int .i64 (f : Int)) := (HH.out.2.cell (p := ⟨b, 3, none⟩) hbl).trans HC3.out
      by_cases hlt : i < n
      · have hlt' : (i : Int) < n := by omega
        have HX : Hid (((f + i : Nat) : Int) = (f : Int) + i) := by show _ = _; omega
        go_wp2_with (at_builtin; refine wpList_append_own _ rfl _ _ 31 rfl w.heap.size 3 i3 (.int .i64 0) 1 8 under_ints hi3 hz0 hz1 hz2 rfl (by decide) _ _ _ rfl (HH.out.1.alloc _) ⟨wr.heap.size, 0, none⟩ 1 1 [.int .i64 ((f : Int) + i)] rfl rfl (cell_one_new _ _ _) ?a2 ?a3 ?a4 ?a5 ?_)
        case a2 => intro u hu; simp at hu; subst hu; rfl
        case a3 => unfold maxLen; omega
        case a4 => omega
        case a5 => have h1 := HH.out.2.size; simp; omega
        intro v' w3 hown hgrow hne
        obtain ⟨g3, c3', rfl⟩ := ownsRow_succ hown
        have H3 : Hid (w3.ownsRow w.heap.size 3 1 (.slice (some ⟨g3, 0, none⟩) (i + 1) c3') (i + 1) (iv (List.range' f (i + 1))) ∧ Below w.heap.size w w3) := by
          have hb2 := HH.out.2.alloc HH.out.2.size (.cells #[.int .i64 ((f : Int) + i)] 3)
          refine ⟨?_, hb2.grown hgrow hb2.size fun k e => ownsRow_ge HH.out.1 e⟩
          rw [range_snoc, iv_snoc, HX.out]
          exact hown
        clear hown hgrow hne
        go_wp2_with fail
        go_roundw
        case rel => exact ⟨i + 1, g3, c3', by omega, by go_num, rfl, H3.out⟩
        case measure => simp [intOf]; omega
      · have hie : i = n := by omega
        subst hie
        have hlt' : ¬ ((i : Int) < i) := by omega
        go_wp2_with fail
        go_ret
        refine ⟨_, rfl, Ints.of_own (base := w.heap.size) ?_, HH.out.2⟩
        rw [List.length_range']
        exact HH.out.1
set_option maxHeartbeats 1000000 in
theorem segments0_any (base b d : Nat) (l : Lg) (rv : Value) (w : World) (h : LogAt TLog base b d l rv w) (h0 : l.last = 0) :
    Calls Tryz.prog 23 #[.pointer (some ⟨b, 0, none⟩)] w fun e w' => e = .returned (.slice none 0 0) ∧ w' = w := by
  obtain ⟨_, _, _, _, c4, _⟩ := h.cells
  have hl0 : ((l.last : Int) == 0) = true := by rw [h0]; rfl
  clear h h0
  go_enter Tryz.func23, Tryz.ntmps23
  go_wp2_with fail
  go_ret
  exact ⟨rfl, rfl⟩
/-- Segments, of a log that stands for such files. -/
theorem playSegs (w : World) (d K b most first : Nat) (cs : List (List Bs)) (a : A) (rv : Value) (W : World) (h : Pw Tryz.prog TLog w d K b a (logOf most first cs) rv W) (ho : Ok a first cs) :
    Calls Tryz.prog 23 #[.pointer (some ⟨b, 0, none⟩)] W fun e W' => ∃ v, e = .returned v ∧ Ints W' v (List.range' first cs.length) ∧ Below W.heap.size W W' := by
  by_cases hc : cs = []
  · subst hc
    refine (segments0_any w.heap.size b d _ rv W h.log rfl).mono ?_
    rintro e W' ⟨he, rfl⟩
    exact ⟨_, he, ⟨none, 0, rfl, Nat.le_refl _, fun j x hj => by simp at hj⟩, Below.refl _ _⟩
  · have hl : 0 < cs.length := List.length_pos_iff.2 hc
    have hf := ho.img.few
    have hp := ho.img.pos
    have hL := h.log
    rw [logOf_ne hc] at hL
    have := segments_any w.heap.size b d _ rv W hL hp (by show first ≤ first + cs.length - 1; omega) (by show first + cs.length - 1 ≤ _; omega)
    simp only at this
    rwa [show first + cs.length - 1 - first + 1 = cs.length by omega] at this
end Go.Proofs.YtoineobjmllicaaGreatDoor
