/- A disk, a log on it, and rows of texts beside them: what opening, adding and telling leave. -/
import Derived.Test.YtoineobjmllicaaGreatDoorWalCuts
import Derived.Test.YtoineobjmllicaaGreatDoorWlOne
namespace Go.Wal
open Go.RowKit Go.Dk
/-- A disk and a log of it, and the world in which they were begun. -/
structure Pw (P : Program) (T : Nat) (w : World) (d K b : Nat) (a : A) (l : Lg) (rv : Value) (W : World) : Prop where
  disk : ∃ S : WD, S.a = a ∧ DiskAt P (fun _ => True) w.heap.size K d W S
  log : LogAt T w.heap.size b d l rv W
  below : Below w.heap.size w W
theorem Pw.under {P : Program} {T : Nat} {w W W' : World} {d K b : Nat} {a : A} {l : Lg} {rv : Value} (h : Pw P T w d K b a l rv W) (k : Below W.heap.size W W') : Pw P T w d K b a l rv W' := by
  obtain ⟨S, h1, h2⟩ := h.disk
  exact ⟨⟨S, h1, h2.below k⟩, h.log.below k, h.below.trans (k.mono h.below.size)⟩
/-- A row of texts of one's own, that is not the log's. -/
structure Mr (w : World) (rv mv : Value) (m : List Bs) (W : World) : Prop where
  own : W.ownsRow w.heap.size 9 1 mv m.length (tv m)
  apart : ∀ g, mv.ownBlock = some g → rv.ownBlock ≠ some g
theorem Mr.under {w W W' : World} {rv mv : Value} {m : List Bs} (h : Mr w rv mv m W) (k : Below W.heap.size W W') : Mr w rv mv m W' := ⟨own_below h.own k, h.apart⟩
theorem Mr.texts {w W : World} {rv mv : Value} {m : List Bs} (h : Mr w rv mv m W) : Texts W mv m := Texts.of_own h.own
theorem Mr.dsk {M : Nat → Prop} {w W W' : World} {rv mv : Value} {m : List Bs} {base : Nat} (h : Mr w rv mv m W) (k : Dsk M base W W') : Mr w rv mv m W' :=
  ⟨ownsRow_kept h.own fun g hg => by
    obtain ⟨cur, hc⟩ := ownsRow_tag h.own hg
    exact (box_kept k hc (by simp [dkind])).trans hc.symm, h.apart⟩
theorem Mr.lds {M : Nat → Prop} {w W W' : World} {rv rv' mv : Value} {m : List Bs} {base b : Nat} {o : Obj} (h : Mr w rv mv m W) (hb : W.heap[b]? = some o) (ho : ∀ cs, o ≠ .cells cs 9 (0, 0)) (k : Lds M base b rv W W') (s : Since W rv rv') : Mr w rv' mv m W' := by
  refine ⟨ownsRow_kept h.own fun g hg => ?_, fun g hg e => ?_⟩
  · obtain ⟨cur, hc⟩ := ownsRow_tag h.own hg
    refine k.block g (block_lt hc) ?_
    rintro (⟨_, o', ho', hk⟩ | e | e)
    · rw [hc] at ho'; cases ho'; simp [dkind] at hk
    · subst e; rw [hc] at hb; cases hb; exact ho cur rfl
    · exact h.apart g hg e
  · rcases s g e with e' | e'
    · exact h.apart g hg e'
    · obtain ⟨cur, hc⟩ := ownsRow_tag h.own hg
      have := block_lt hc
      omega
theorem Mr.fresh {w W0 W : World} {rv mv : Value} {m : List Bs} {T b d base : Nat} {l : Lg} (hl : LogAt T base b d l rv W0) (h : W.ownsRow W0.heap.size 9 1 mv m.length (tv m)) (hw : w.heap.size ≤ W0.heap.size) : Mr w rv mv m W :=
  ⟨own_mono h hw, fun g hg e => by
    have h1 := ownsRow_ge h hg
    obtain ⟨cur, hc⟩ := ownsRow_tag hl.recs e
    have := block_lt hc
    omega⟩
/-- A row of numbers of one's own. -/
def Sr (w : World) (v : Value) (U : List Nat) (W : World) : Prop := W.ownsRow w.heap.size 3 1 v U.length (iv U)
theorem Sr.under {w W W' : World} {v : Value} {U : List Nat} (h : Sr w v U W) (k : Below W.heap.size W W') : Sr w v U W' := own_below h k
theorem Sr.dsk {M : Nat → Prop} {w W W' : World} {v : Value} {U : List Nat} {base : Nat} (h : Sr w v U W) (k : Dsk M base W W') : Sr w v U W' :=
  ownsRow_kept h fun g hg => by
    obtain ⟨cur, hc⟩ := ownsRow_tag h hg
    exact (box_kept k hc (by simp [dkind])).trans hc.symm
theorem Sr.lds {M : Nat → Prop} {w W W' : World} {rv v : Value} {U : List Nat} {base base' b d T : Nat} {l : Lg} (h : Sr w v U W) (hl : LogAt T base' b d l rv W) (hT : T ≠ 3) (k : Lds M base b rv W W') : Sr w v U W' :=
  ownsRow_kept h fun g hg => by
    obtain ⟨cur, hc⟩ := ownsRow_tag h hg
    refine k.block g (block_lt hc) ?_
    rintro (⟨_, o', ho', hk⟩ | e | e)
    · rw [hc] at ho'; cases ho'; simp [dkind] at hk
    · subst e
      have := hl.row
      rw [hc] at this
      cases this
      exact hT rfl
    · obtain ⟨cur', hc'⟩ := ownsRow_tag hl.recs e
      rw [hc] at hc'
      cases hc'
theorem logOf_bounds {fs : List AF} {first most : Nat} {cs : List (List Bs)} (h : Img fs first cs) (hm : most ≤ 256) (hr : cs.flatten.length ≤ 10000) : (logOf most first cs).first ≤ 2000000 ∧ (logOf most first cs).last ≤ 2000000 ∧ (logOf most first cs).size ≤ 1000000000 ∧ (logOf most first cs).most ≤ 9223372036854775807 ∧ (logOf most first cs).recs.length ≤ 1000000 := by
  have hf := h.few
  by_cases hc : cs = []
  · subst hc
    refine ⟨by simp [logOf], by simp [logOf], by simp [logOf], ?_, by simp [logOf]⟩
    show most ≤ _
    omega
  · rw [logOf_ne hc]
    have hlast : (frs (cs.getLastD [])).length ≤ 2000 := by
      obtain ⟨ys, y, rfl⟩ : ∃ ys y, cs = ys ++ [y] := ⟨cs.dropLast, cs.getLast hc, (List.dropLast_concat_getLast hc).symm⟩
      have := h.size y (by simp)
      simpa using this
    exact ⟨by show first ≤ _; omega, by show first + cs.length - 1 ≤ _; omega, by show 17 + _ ≤ _; omega, by show most ≤ _; omega, by show cs.flatten.length ≤ _; omega⟩
theorem logOf_recs (most first : Nat) (cs : List (List Bs)) : (logOf most first cs).recs = cs.flatten := by
  by_cases hc : cs = []
  · subst hc; rfl
  · rw [logOf_ne hc]
end Go.Wal
namespace Go.Proofs.YtoineobjmllicaaGreatDoor
open Go.RowKit Go.Dk Go.Wal
theorem slice_own {w W : World} {rv : Value} {x : List Bs} {g n c : Nat} (h : Mr w rv (.slice (some ⟨g, 0, none⟩) n c) x W) : n = x.length := by
  rcases h.own.2 with ⟨e, _⟩ | ⟨_, _, _, e, _⟩
  · cases e
  · cases e; rfl
/-- Add, of records that are not too many. -/
theorem playAdd (w : World) (hv : Vars w) (d K b most first : Nat) (cs : List (List Bs)) (a : A) (rv : Value) (x : List Bs) (g c : Nat) (W : World) (h : Pw Tryz.prog TLog w d K b a (logOf most first cs) rv W) (ho : Ok a first cs) (hx : Mr w rv (.slice (some ⟨g, 0, none⟩) x.length c) x W)
    (hm : most ≤ 256) (hx2 : ∀ r ∈ x, r.length ≤ 200) (hxl : x.length ≤ 6) (hfew : first + cs.length ≤ 900) (hrec : cs.flatten.length ≤ 10000) (hK : K + 1 ≤ 5000) :
    Calls Tryz.prog 18 #[.pointer (some ⟨b, 0, none⟩), .slice (some ⟨g, 0, none⟩) x.length c] W fun e W' =>
      ∃ rv', ((e = .returned (.int .i64 61) ∧ 0 ≤ a.room ∧ Pw Tryz.prog TLog w d (K + 1) b a (logOf most first cs) rv' W') ∨
        (∃ a', e = .returned (.int .i64 0) ∧ Pw Tryz.prog TLog w d (K + 1) b a' (logOf most (addS most first cs x).1 (addS most first cs x).2) rv' W' ∧ Ok a' (addS most first cs x).1 (addS most first cs x).2 ∧ a'.room = a.room ∧ (addS most first cs x).1 + (addS most first cs x).2.length ≤ first + cs.length + 1)) ∧
        (∀ mv m, Mr w rv mv m W → Mr w rv' mv m W') ∧ (∀ v U, Sr w v U W → Sr w v U W') := by
  obtain ⟨S, hS, hD⟩ := h.disk
  have hz := frs_len x hx2
  have := add_any (M := fun _ => True) (fun _ => trivial) w.heap.size w.heap.size K b d S (logOf most first cs) rv (.slice (some ⟨g, 0, none⟩) x.length c) x W hD (Vars.below hv h.below) h.log hx.texts (fun w' k => (hx.dsk k).texts) (fun n c e => by cases e) h.below.size h.below.size hK (logOf_bounds ho.img hm hrec) (fun t ht => by have := hx2 t ht; omega) (by omega) (by omega)
  rw [hS] at this
  refine this.mono ?_
  rintro e W' ⟨he, ⟨rv', hL', hs'⟩, hT', hk⟩
  have hbel : Below w.heap.size w W' := h.below.trans (h.log.keeps hk h.below.size)
  have hmr : (∀ mv m, Mr w rv mv m W → Mr w rv' mv m W') ∧ (∀ v U, Sr w v U W → Sr w v U W') := ⟨fun mv m hm' => hm'.lds h.log.row (fun cs e => by cases e) hk hs', fun v U hu => hu.lds h.log (by decide) hk⟩
  rcases ho.add most x hm hx2 hxl hfew with ⟨e1, e2⟩ | ⟨a', e1, e2, e3, e4⟩
  · rw [e1] at he hL' hT'
    exact ⟨rv', .inl ⟨he, e2, ⟨hT', hL', hbel⟩⟩, hmr⟩
  · rw [e1] at he hL' hT'
    exact ⟨rv', .inr ⟨a', he, ⟨hT', hL', hbel⟩, e2, e3, e4⟩, hmr⟩
/-- Open, of what a log left. -/
theorem playOpen (w : World) (hv : Vars w) (d K most first : Nat) (cs : List (List Bs)) (a : A) (W : World) (hD : ∃ S : WD, S.a = a ∧ DiskAt Tryz.prog (fun _ => True) w.heap.size K d W S) (hb : Below w.heap.size w W) (ho : Ok a first cs) (hm : 1 ≤ most) (hrec : cs.flatten.length ≤ 10000) (hK : K + cs.length ≤ 4980) :
    Calls Tryz.prog 10 #[.pointer (some ⟨d, 0, none⟩), .int .i64 most] W fun e W' => ∃ b rv, e = .returned (.tuple #[.pointer (some ⟨b, 0, none⟩), .int .i64 0, .int .i64 0]) ∧ Pw Tryz.prog TLog w d (K + cs.length + 1) b a (logOf most first cs) rv W' ∧
      (∀ rv0 mv m, Mr w rv0 mv m W → Mr w rv mv m W') ∧ (∀ v U, Sr w v U W → Sr w v U W') := by
  obtain ⟨S, hS, hD⟩ := hD
  have h5 : 5 ≤ w.heap.size := hv.size
  have := walOpen_any (M := fun _ => True) (fun _ => trivial) w.heap.size K d S most W hD (Vars.below hv hb) hb.size h5 (by rw [hS, ho.img.count]; exact hK) hm (by rw [hS]; exact ho.down) (by rw [hS]; exact ho.img.sm) (by rw [hS]; exact ho.img.fews) (by rw [hS, ho.img.gather, logOf_recs]; omega)
  rw [hS, ho.openIs, ho.img.gather, ho.img.count] at this
  refine this.mono ?_
  rintro e W' ⟨⟨_, h2, _⟩ | ⟨b, rv, he, hL, _, _⟩, hT, hk⟩
  · cases h2
  · refine ⟨b, rv, he, ⟨hT, hL.mono hb.size, hb.trans (hk.below hb.size)⟩, fun rv0 mv m hm' => ⟨(hm'.dsk hk).own, fun g hg e => ?_⟩, fun v U hu => hu.dsk hk⟩
    have h1 := ownsRow_ge hL.recs e
    obtain ⟨cur, hc⟩ := ownsRow_tag hm'.own hg
    have := block_lt hc
    omega
/-- All, of a log. -/
theorem playAll (w : World) (d K b : Nat) (a : A) (l : Lg) (rv : Value) (W : World) (h : Pw Tryz.prog TLog w d K b a l rv W) (hr : l.recs.length ≤ 1000000) :
    Calls Tryz.prog 20 #[.pointer (some ⟨b, 0, none⟩)] W fun e W' => ∃ v, e = .returned v ∧ Texts W' v l.recs ∧ Below W.heap.size W W' :=
  (allRecs_any w.heap.size b d l rv W h.log hr).mono fun _ _ ⟨v, he, ho, hb⟩ => ⟨v, he, Texts.of_own ho, hb⟩
/-- Reset, of records that are not too many. -/
theorem playReset (w : World) (hv : Vars w) (d K b most first : Nat) (cs : List (List Bs)) (a : A) (rv : Value) (x : List Bs) (g c : Nat) (W : World) (h : Pw Tryz.prog TLog w d K b a (logOf most first cs) rv W) (ho : Ok a first cs) (hx : Mr w rv (.slice (some ⟨g, 0, none⟩) x.length c) x W)
    (hr : ¬ 0 ≤ a.room) (hx2 : ∀ r ∈ x, r.length ≤ 200) (hxl : x.length ≤ 6) (hfew : first + cs.length ≤ 900) (hfirst : cs = [] → first = 1) (hK : K + 3 + cs.length ≤ 4990) :
    Calls Tryz.prog 13 #[.pointer (some ⟨b, 0, none⟩), .slice (some ⟨g, 0, none⟩) x.length c] W fun e W' =>
      ∃ rv' a', e = .returned (.int .i64 0) ∧ Pw Tryz.prog TLog w d (K + 3 + cs.length) b a' (logOf most (first + cs.length) [x]) rv' W' ∧ Ok a' (first + cs.length) [x] ∧ a'.room = a.room ∧
        (∀ mv m, Mr w rv mv m W → Mr w rv' mv m W') ∧ (∀ v U, Sr w v U W → Sr w v U W') := by
  obtain ⟨S, hS, hD⟩ := h.disk
  have h5 : 5 ≤ w.heap.size := hv.size
  have hz := frs_len x hx2
  have hl1 := logOf_last most first cs hfirst ho.img.pos
  obtain ⟨a3, hlay, hM, _, h3d, _⟩ := ho.lay x hr hfew
  have hcnt := hM.count (by omega)
  have hl2 : (logOf most first cs).last ≤ 2000000 := by omega
  have := reset_any (M := fun _ => True) (fun _ => trivial) w.heap.size w.heap.size K b d S (logOf most first cs) rv (.slice (some ⟨g, 0, none⟩) x.length c) x W hD (Vars.below hv h.below) h.log hx.texts (fun w' k => (hx.dsk k).texts) ⟨_, _, rfl, .inr ⟨_, _, rfl⟩⟩ h.below.size h.below.size h5 h5 (by omega) hl2 (fun t ht => by have := hx2 t ht; omega) (by omega) (by omega)
    (by rw [hS, hl1, hlay]; intro _; exact ⟨h3d, hM.sm ho.img.size (by omega), by show K + 2 + a3.files.length ≤ 4990; omega⟩) (K + 3 + cs.length) (by rw [hS, hl1, hlay]; intro _; show K + 2 + a3.files.length ≤ _; omega) (by omega) (by omega)
  obtain ⟨a', e1, e2, e3⟩ := ho.reset most x hr hx2 hxl hfew hfirst
  rw [hS, e1] at this
  refine this.mono ?_
  rintro e W' ⟨he, ⟨rv', hL', hs'⟩, hT', hk⟩
  exact ⟨rv', a', he, ⟨hT', hL', h.below.trans (h.log.keeps hk h.below.size)⟩, e2, e3, fun mv m hm' => hm'.lds h.log.row (fun cs e => by cases e) hk hs', fun v U hu => hu.lds h.log (by decide) hk⟩
/-- Crash, and Up. -/
theorem playCrash (w : World) (d K b : Nat) (a : A) (l : Lg) (rv : Value) (keep torn : Int) (W : World) (h : Pw Tryz.prog TLog w d K b a l rv W) :
    Calls Tryz.prog 16 #[.pointer (some ⟨d, 0, none⟩), .int .i64 keep, .int .i64 torn] W fun e W' => e = .returned (.tuple #[]) ∧ Pw Tryz.prog TLog w d K b (a.crash keep torn) l rv W' ∧ (∀ mv m, Mr w rv mv m W → Mr w rv mv m W') ∧ (∀ v U, Sr w v U W → Sr w v U W') := by
  obtain ⟨S, hS, hD⟩ := h.disk
  refine (crash_op w.heap.size K d S keep torn W hD h.below.size).mono ?_
  rintro e W' ⟨he, T, hT, hD', hk⟩
  exact ⟨he, ⟨⟨T, by rw [hT, hS], hD'⟩, h.log.dsk hk, h.below.trans (hk.below h.below.size)⟩, fun mv m hm => hm.dsk hk, fun v U hu => hu.dsk hk⟩
theorem playUp (w : World) (d K b : Nat) (a : A) (l : Lg) (rv : Value) (W : World) (h : Pw Tryz.prog TLog w d K b a l rv W) :
    Calls Tryz.prog 17 #[.pointer (some ⟨d, 0, none⟩)] W fun e W' => (∃ x, e = .returned (.bool x)) ∧ Pw Tryz.prog TLog w d K b { a with down := false } l rv W' ∧ (∀ mv m, Mr w rv mv m W → Mr w rv mv m W') ∧ (∀ v U, Sr w v U W → Sr w v U W') := by
  obtain ⟨S, hS, hD⟩ := h.disk
  refine (up_op w.heap.size K d S W hD).mono ?_
  rintro e W' ⟨he, T, hT, hD', hk⟩
  exact ⟨⟨_, he⟩, ⟨⟨T, by rw [hT, hS], hD'⟩, h.log.dsk hk, h.below.trans (hk.below h.below.size)⟩, fun mv m hm => hm.dsk hk, fun v U hu => hu.dsk hk⟩
/-- Names, by how many they are. -/
theorem playNames (w : World) (d K b : Nat) (a : A) (l : Lg) (rv : Value) (W : World) (h : Pw Tryz.prog TLog w d K b a l rv W) :
    Calls Tryz.prog 24 #[.pointer (some ⟨d, 0, none⟩)] W fun e W' => (∃ va vc, e = .returned (.slice va a.files.length vc)) ∧ Below W.heap.size W W' := by
  obtain ⟨S, hS, hD⟩ := h.disk
  refine (names_any w.heap.size K d S W hD).mono ?_
  rintro e W' ⟨v, he, ho, hb⟩
  obtain ⟨va, vc, hv⟩ := own_form ho
  have hl : S.fs.length = a.files.length := by rw [← hS, ← hD.same, List.length_map]
  exact ⟨⟨va, vc, by rw [he, hv, hl]⟩, hb⟩
end Go.Proofs.YtoineobjmllicaaGreatDoor
