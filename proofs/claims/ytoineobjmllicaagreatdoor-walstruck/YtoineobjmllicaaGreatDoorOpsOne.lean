/- Several texts in one: DiskOps. -/
import Derived.Test.YtoineobjmllicaaGreatDoorDkSeven
import Derived.Test.YtoineobjmllicaaGreatDoorDkSix
/- Contracts: each of the disk's calls as one step of the plain disk. -/
namespace Go.Dk
open Go.RowKit
variable {M : Nat → Prop}
/-- A change: struck, or done. -/
def A.change (a b : A) : A × Int := match a.hit with | some f => (({ a with fall := none } : A).crash f.keep f.torn, 7) | none => (b, 0)
def A.doPut (a : A) (name : Bs) (p : Pt) : A × Int :=
  if ableOf a name ≠ 0 then (a, ableOf a name)
  else if holdsOf a (((if p.whole = true then 0 else (a.fileOf name).bytes.length : Nat) : Int) + (p.s.length : Int) - ((a.fileOf name).bytes.length : Int)) = false then (a, 61)
  else a.change (a.puts (a.fileOf name) p)
def A.doMove (a : A) (name dst : Bs) : A × Int :=
  if ableOf a name ≠ 0 then (a, ableOf a name)
  else match seek AF.name name a.files with
    | none => (a, 2)
    | some f => if nameOk dst = false then (a, 60) else if name = dst then (a, 1) else a.change (a.left (ins AF.name (named dst f.bytes) (del AF.name name a.files)))
def A.doRemove (a : A) (name : Bs) : A × Int :=
  if ableOf a name ≠ 0 then (a, ableOf a name)
  else match seek AF.name name a.files with
    | none => (a, 2)
    | some _ => a.change (a.left (del AF.name name a.files))
def A.doTrunc (a : A) (name : Bs) (n : Int) : A × Int :=
  if ableOf a name ≠ 0 then (a, ableOf a name)
  else match seek AF.name name a.files with
    | none => (a, 2)
    | some f => if n < 0 ∨ (f.bytes.length : Int) < n then (a, 1) else a.change (a.left (ins AF.name (f.settle (f.bytes.take n.toNat)) a.files))
def A.doSync (a : A) : A × Int := if a.down = true then (a, 7) else (a.synced, 0)
/-- What a call leaves: the plain disk's answer, and its state. -/
def Did (P : Program) (M : Nat → Prop) (base K d : Nat) (w : World) (r : A × Int) (e : Ending) (w' : World) : Prop := e = .returned (.int .i64 r.2) ∧ ∃ T : WD, T.a = r.1 ∧ DiskAt P M base K d w' T ∧ Dsk M base w w'
theorem did_same {P : Program} {base K d : Nat} {w w' : World} {S : WD} (h : DiskAt P M base K d w S) (hl : K + 1 ≤ 5000) {r : Int} {e : Ending} (he : e = .returned (.int .i64 r)) (hb : Below w.heap.size w w') : Did P M base (K + 1) d w (S.a, r) e w' :=
  ⟨he, S, rfl, (h.below hb).mono (Nat.le_succ _) hl, .of_below hb⟩
theorem did_struck {P : Program} {base K d : Nat} {w w' : World} {S : WD} {f : Fall} (hl : K + 1 ≤ 5000) (hh : S.a.hit = some f) {b : A} {e : Ending} (h : e = .returned (.int .i64 7) ∧ ∃ T : WD, T.a = ({ S.a with fall := none } : A).crash f.keep f.torn ∧ DiskAt P M base K d w' T ∧ Dsk M base w w') : Did P M base (K + 1) d w (S.a.change b) e w' := by
  obtain ⟨he, T, hT, hD, hk⟩ := h
  unfold A.change
  rw [hh]
  exact ⟨he, T, hT, hD.mono (Nat.le_succ _) hl, hk⟩
theorem did_done {P : Program} {base K d : Nat} {w w' : World} {S : WD} (hh : S.a.hit = none) {b : A} {e : Ending} (h : e = .returned (.int .i64 0) ∧ ∃ T : WD, T.a = b ∧ DiskAt P M base (K + 1) d w' T ∧ Dsk M base w w') : Did P M base (K + 1) d w (S.a.change b) e w' := by
  unfold A.change
  rw [hh]
  exact h
end Go.Dk
namespace Go.Proofs.YtoineobjmllicaaGreatDoor
open Go.RowKit Go.Dk
variable {M : Nat → Prop}
theorem more_is {S : WD} {F : WF} {name : Bs} (hFa : F.a = S.a.fileOf name) (whole : Bool) (s : ByteArray) : moreOf F whole s = ((if whole = true then 0 else (S.a.fileOf name).bytes.length : Nat) : Int) + (s.data.toList.length : Int) - ((S.a.fileOf name).bytes.length : Int) := by
  unfold moreOf
  rw [hFa]
  have : s.size = s.data.toList.length := by simp
  rw [this]
theorem append_op (hM : ∀ b, M b) (base K d : Nat) (S : WD) (name s : ByteArray) (w : World) (h : DiskAt Tryz.prog M base K d w S) (hbase : base ≤ w.heap.size) (hl : K + 1 ≤ 5000) (hs : name.size ≤ maxLen) (hss : s.size ≤ 2000) :
    Calls Tryz.prog 50 #[.pointer (some ⟨d, 0, none⟩), .string name, .string s] w (Did Tryz.prog M base (K + 1) d w (S.a.doPut name.data.toList ⟨s.data.toList, false⟩)) := by
  unfold A.doPut
  by_cases ha : ableOf S.a name.data.toList = 0
  · rw [if_neg (by simpa using ha)]
    obtain ⟨hd, hn⟩ := able_ok ha
    cases hh : holdsOf S.a (((if false = true then 0 else (S.a.fileOf name.data.toList).bytes.length : Nat) : Int) + (s.data.toList.length : Int) - ((S.a.fileOf name.data.toList).bytes.length : Int)) with
    | false =>
      simp only [if_true]
      refine (append_put base K d S name s w h hbase hs ha 61 (fun w' => Below w.heap.size w w') fun F w1 hO hFa hb => ?_).mono fun e w' ⟨he, hb⟩ => did_same h hl he hb
      refine (put_full base K d S w1 (h.below hb) F name s hO hss false _ (.inr ⟨rfl, rfl⟩) (by rw [more_is hFa]; exact hh)).mono fun e w' ⟨he, hb'⟩ => ⟨he, hb.trans (hb'.mono hb.size)⟩
    | true =>
      simp only [Bool.true_eq_false, if_false]
      cases hit : S.a.hit with
      | some f =>
        refine (append_put base K d S name s w h hbase hs ha 7 (fun w' => ∃ T : WD, T.a = ({ S.a with fall := none } : A).crash f.keep f.torn ∧ DiskAt Tryz.prog M base K d w' T ∧ Dsk M base w w') fun F w1 hO hFa hb => ?_).mono fun e w' hx => did_struck hl hit hx
        exact (put_hit base K d S w1 (h.below hb) F name s hO hss false _ (.inr ⟨rfl, rfl⟩) (by rw [more_is hFa]; exact hh) f hit hd (Nat.le_trans hbase hb.size)).mono fun e w' ⟨he, T, hT, hD, hk⟩ => ⟨he, T, hT, hD, Dsk.trans (.of_below hb) hk⟩
      | none =>
        refine (append_put base K d S name s w h hbase hs ha 0 (fun w' => ∃ T : WD, T.a = S.a.puts (S.a.fileOf name.data.toList) ⟨s.data.toList, false⟩ ∧ DiskAt Tryz.prog M base (K + 1) d w' T ∧ Dsk M base w w') fun F w1 hO hFa hb => ?_).mono fun e w' hx => did_done hit hx
        exact (put_calm hM base K d S w1 (h.below hb) F name s hO hss false _ (.inr ⟨rfl, rfl⟩) (by rw [more_is hFa]; exact hh) hit (Nat.le_trans hbase hb.size) hl hs).mono fun e w' ⟨he, T, hT, hD, hk⟩ => ⟨he, T, by rw [hT, hFa], hD, Dsk.trans (.of_below hb) hk⟩
  · rw [if_pos (by simpa using ha)]
    exact (append_err base K d S name s _ w h hs rfl ha).mono fun e w' ⟨he, hb⟩ => did_same h hl he (by rw [hb]; exact Below.refl _ _)
theorem write_op (hM : ∀ b, M b) (base K d : Nat) (S : WD) (name s : ByteArray) (w : World) (h : DiskAt Tryz.prog M base K d w S) (hbase : base ≤ w.heap.size) (hl : K + 1 ≤ 5000) (hs : name.size ≤ maxLen) (hss : s.size ≤ 2000) :
    Calls Tryz.prog 31 #[.pointer (some ⟨d, 0, none⟩), .string name, .string s] w (Did Tryz.prog M base (K + 1) d w (S.a.doPut name.data.toList ⟨s.data.toList, true⟩)) := by
  unfold A.doPut
  by_cases ha : ableOf S.a name.data.toList = 0
  · rw [if_neg (by simpa using ha)]
    obtain ⟨hd, hn⟩ := able_ok ha
    cases hh : holdsOf S.a (((if true = true then 0 else (S.a.fileOf name.data.toList).bytes.length : Nat) : Int) + (s.data.toList.length : Int) - ((S.a.fileOf name.data.toList).bytes.length : Int)) with
    | false =>
      simp only [if_true]
      refine (write_put base K d S name s w h hbase hs ha 61 (fun w' => Below w.heap.size w w') fun F w1 hO hFa hb => ?_).mono fun e w' ⟨he, hb⟩ => did_same h hl he hb
      refine (put_full base K d S w1 (h.below hb) F name s hO hss true _ (.inl ⟨rfl, rfl⟩) (by rw [more_is hFa]; exact hh)).mono fun e w' ⟨he, hb'⟩ => ⟨he, hb.trans (hb'.mono hb.size)⟩
    | true =>
      simp only [Bool.true_eq_false, if_false]
      cases hit : S.a.hit with
      | some f =>
        refine (write_put base K d S name s w h hbase hs ha 7 (fun w' => ∃ T : WD, T.a = ({ S.a with fall := none } : A).crash f.keep f.torn ∧ DiskAt Tryz.prog M base K d w' T ∧ Dsk M base w w') fun F w1 hO hFa hb => ?_).mono fun e w' hx => did_struck hl hit hx
        exact (put_hit base K d S w1 (h.below hb) F name s hO hss true _ (.inl ⟨rfl, rfl⟩) (by rw [more_is hFa]; exact hh) f hit hd (Nat.le_trans hbase hb.size)).mono fun e w' ⟨he, T, hT, hD, hk⟩ => ⟨he, T, hT, hD, Dsk.trans (.of_below hb) hk⟩
      | none =>
        refine (write_put base K d S name s w h hbase hs ha 0 (fun w' => ∃ T : WD, T.a = S.a.puts (S.a.fileOf name.data.toList) ⟨s.data.toList, true⟩ ∧ DiskAt Tryz.prog M base (K + 1) d w' T ∧ Dsk M base w w') fun F w1 hO hFa hb => ?_).mono fun e w' hx => did_done hit hx
        exact (put_calm hM base K d S w1 (h.below hb) F name s hO hss true _ (.inl ⟨rfl, rfl⟩) (by rw [more_is hFa]; exact hh) hit (Nat.le_trans hbase hb.size) hl hs).mono fun e w' ⟨he, T, hT, hD, hk⟩ => ⟨he, T, by rw [hT, hFa], hD, Dsk.trans (.of_below hb) hk⟩
  · rw [if_pos (by simpa using ha)]
    exact (write_err base K d S name s _ w h hs rfl ha).mono fun e w' ⟨he, hb⟩ => did_same h hl he (by rw [hb]; exact Below.refl _ _)
/-- What a name is there for, on both sides. -/
theorem seek_two {base K d : Nat} {S : WD} {w : World} (h : DiskAt Tryz.prog M base K d w S) (name : Bs) : (seek AF.name name S.a.files = none ∧ seek WF.nm name S.fs = none) ∨ ∃ F, seek AF.name name S.a.files = some F.a ∧ seek WF.nm name S.fs = some F := by
  have := h.seek name
  cases hf : seek WF.nm name S.fs with
  | none => rw [hf] at this; exact .inl ⟨this.symm, rfl⟩
  | some F => rw [hf] at this; exact .inr ⟨F, this.symm, rfl⟩
theorem remove_op (base K d : Nat) (S : WD) (name : ByteArray) (w : World) (h : DiskAt Tryz.prog M base K d w S) (hbase : base ≤ w.heap.size) (hl : K + 1 ≤ 5000) (hs : name.size ≤ maxLen) :
    Calls Tryz.prog 70 #[.pointer (some ⟨d, 0, none⟩), .string name] w (Did Tryz.prog M base (K + 1) d w (S.a.doRemove name.data.toList)) := by
  unfold A.doRemove
  by_cases ha : ableOf S.a name.data.toList = 0
  · rw [if_neg (by simpa using ha)]
    obtain ⟨hd, hn⟩ := able_ok ha
    rcases seek_two h name.data.toList with ⟨h1, h2⟩ | ⟨F, h1, h2⟩
    · rw [h1]
      exact (remove_err base K d S name 2 w h hs (by decide) (.inr ⟨ha, h2, rfl⟩)).mono fun e w' ⟨he, hb⟩ => did_same h hl he hb
    · rw [h1]
      cases hit : S.a.hit with
      | some f =>
        refine (remove_some base K d S name w h hs ha F h2 7 (fun w' => ∃ T : WD, T.a = ({ S.a with fall := none } : A).crash f.keep f.torn ∧ DiskAt Tryz.prog M base K d w' T ∧ Dsk M base w w') fun w1 hb _ _ => ?_).mono fun e w' hx => did_struck hl hit hx
        exact (change_hit base K d S w1 (h.below hb) (Nat.le_trans hbase hb.size) hd f hit _).mono fun e w' ⟨he, T, hT, hD, hk⟩ => ⟨he, T, hT, hD, Dsk.trans (.of_below hb) hk⟩
      | none =>
        refine (remove_some base K d S name w h hs ha F h2 0 (fun w' => ∃ T : WD, T.a = S.a.left (del AF.name name.data.toList S.a.files) ∧ DiskAt Tryz.prog M base (K + 1) d w' T ∧ Dsk M base w w') fun w1 hb x0 x1 => ?_).mono fun e w' hx => did_done hit hx
        refine (change_calm base K (K + 1) d S w1 (h.below hb) hit _ _ (fun T => T.counted.a = S.a.left (del AF.name name.data.toList S.a.files)) (Nat.succ_le_succ h.chg) hl (enters_of Tryz.func99 (by kernel_rfl) rfl) fun w2 hb2 => ?_).mono fun e w' ⟨he, T, hT, hD, hk⟩ => ⟨he, T.counted, hT, hD, Dsk.trans (.of_below hb) hk⟩
        exact removefn_any base K d S w2 ((h.below hb).below hb2) hl name hs F h2 _ _ ((hb2.block _ (block_lt x0)).trans x0) ((hb2.block _ (block_lt x1)).trans x1)
  · rw [if_pos (by simpa using ha)]
    exact (remove_err base K d S name _ w h hs ha (.inl rfl)).mono fun e w' ⟨he, hb⟩ => did_same h hl he hb
theorem trunc_op (base K d : Nat) (S : WD) (name : ByteArray) (n : Int) (w : World) (h : DiskAt Tryz.prog M base K d w S) (hbase : base ≤ w.heap.size) (hl : K + 1 ≤ 5000) (hs : name.size ≤ maxLen) :
    Calls Tryz.prog 98 #[.pointer (some ⟨d, 0, none⟩), .string name, .int .i64 n] w (Did Tryz.prog M base (K + 1) d w (S.a.doTrunc name.data.toList n)) := by
  unfold A.doTrunc
  by_cases ha : ableOf S.a name.data.toList = 0
  · rw [if_neg (by simpa using ha)]
    obtain ⟨hd, hn⟩ := able_ok ha
    rcases seek_two h name.data.toList with ⟨h1, h2⟩ | ⟨F, h1, h2⟩
    · rw [h1]
      exact (trunc_err base K d S name n 2 w h hs (by decide) (.inr ⟨ha, h2, rfl⟩)).mono fun e w' ⟨he, hb⟩ => did_same h hl he hb
    · rw [h1]
      simp only
      by_cases hc : n < 0 ∨ (F.a.bytes.length : Int) < n
      · rw [if_pos hc]
        exact (trunc_arg base K d S name n w h hs ha F h2 hc).mono fun e w' ⟨he, hb⟩ => did_same h hl he hb
      · rw [if_neg hc]
        have hm : n = (n.toNat : Nat) := by omega
        have hle : n.toNat ≤ F.a.bytes.length := by omega
        cases hit : S.a.hit with
        | some f =>
          refine (trunc_some base K d S name n w h hs ha F h2 n.toNat hm hle 7 (fun w' => ∃ T : WD, T.a = ({ S.a with fall := none } : A).crash f.keep f.torn ∧ DiskAt Tryz.prog M base K d w' T ∧ Dsk M base w w') fun w1 hb _ _ => ?_).mono fun e w' hx => did_struck hl hit hx
          exact (change_hit base K d S w1 (h.below hb) (Nat.le_trans hbase hb.size) hd f hit _).mono fun e w' ⟨he, T, hT, hD, hk⟩ => ⟨he, T, hT, hD, Dsk.trans (.of_below hb) hk⟩
        | none =>
          refine (trunc_some base K d S name n w h hs ha F h2 n.toNat hm hle 0 (fun w' => ∃ T : WD, T.a = S.a.left (ins AF.name (F.a.settle (F.a.bytes.take n.toNat)) S.a.files) ∧ DiskAt Tryz.prog M base (K + 1) d w' T ∧ Dsk M base w w') fun w1 hb x0 x1 => ?_).mono fun e w' hx => did_done hit hx
          refine (change_calm base K (K + 1) d S w1 (h.below hb) hit _ _ (fun T => T.counted.a = S.a.left (ins AF.name (F.a.settle (F.a.bytes.take n.toNat)) S.a.files)) (Nat.succ_le_succ h.chg) hl (enters_of Tryz.func116 (by kernel_rfl) rfl) fun w2 hb2 => ?_).mono fun e w' ⟨he, T, hT, hD, hk⟩ => ⟨he, T.counted, hT, hD, Dsk.trans (.of_below hb) hk⟩
          exact truncfn_any base K d S w2 ((h.below hb).below hb2) hl F (seek_some h2).1 n.toNat hle _ _ ((hb2.block _ (block_lt x1)).trans x1) ((hb2.block _ (block_lt x0)).trans (by rw [← hm]; exact x0))
  · rw [if_pos (by simpa using ha)]
    exact (trunc_err base K d S name n _ w h hs ha (.inl rfl)).mono fun e w' ⟨he, hb⟩ => did_same h hl he hb
theorem move_op (base K d : Nat) (S : WD) (name dst : ByteArray) (w : World) (h : DiskAt Tryz.prog M base K d w S) (hbase : base ≤ w.heap.size) (hl : K + 1 ≤ 5000) (hs : name.size ≤ maxLen) (hts : dst.size ≤ maxLen) :
    Calls Tryz.prog 77 #[.pointer (some ⟨d, 0, none⟩), .string name, .string dst] w (Did Tryz.prog M base (K + 1) d w (S.a.doMove name.data.toList dst.data.toList)) := by
  unfold A.doMove
  by_cases ha : ableOf S.a name.data.toList = 0
  · rw [if_neg (by simpa using ha)]
    obtain ⟨hd, hn⟩ := able_ok ha
    rcases seek_two h name.data.toList with ⟨h1, h2⟩ | ⟨F, h1, h2⟩
    · rw [h1]
      exact (move_err base K d S name dst 2 w h hs (by decide) (.inr ⟨ha, h2, rfl⟩)).mono fun e w' ⟨he, hb⟩ => did_same h hl he hb
    · rw [h1]
      simp only
      cases hto : nameOk dst.data.toList with
      | false =>
        simp only [if_true]
        exact (move_name base K d S name dst w h hs hts ha F h2 hto).mono fun e w' ⟨he, hb⟩ => did_same h hl he hb
      | true =>
        simp only [Bool.true_eq_false, if_false]
        by_cases hne : name.data.toList = dst.data.toList
        · rw [if_pos hne]
          have : name = dst := by
            obtain ⟨⟨x⟩⟩ := name
            obtain ⟨⟨y⟩⟩ := dst
            simp_all
          subst this
          exact (move_arg base K d S name w h hs ha F h2).mono fun e w' ⟨he, hb⟩ => did_same h hl he hb
        · rw [if_neg hne]
          have hne' : name ≠ dst := fun e => hne (by rw [e])
          cases hit : S.a.hit with
          | some f =>
            refine (move_some base K d S name dst w h hs hts ha F h2 hto hne' 7 (fun w' => ∃ T : WD, T.a = ({ S.a with fall := none } : A).crash f.keep f.torn ∧ DiskAt Tryz.prog M base K d w' T ∧ Dsk M base w w') fun w1 hb _ _ _ _ => ?_).mono fun e w' hx => did_struck hl hit hx
            exact (change_hit base K d S w1 (h.below hb) (Nat.le_trans hbase hb.size) hd f hit _).mono fun e w' ⟨he, T, hT, hD, hk⟩ => ⟨he, T, hT, hD, Dsk.trans (.of_below hb) hk⟩
          | none =>
            refine (move_some base K d S name dst w h hs hts ha F h2 hto hne' 0 (fun w' => ∃ T : WD, T.a = S.a.left (ins AF.name (named dst.data.toList F.a.bytes) (del AF.name name.data.toList S.a.files)) ∧ DiskAt Tryz.prog M base (K + 1) d w' T ∧ Dsk M base w w') fun w1 hb x0 x1 x2 x3 => ?_).mono fun e w' hx => did_done hit hx
            refine (change_calm base K (K + 1) d S w1 (h.below hb) hit _ _ (fun T => T.counted.a = S.a.left (ins AF.name (named dst.data.toList F.a.bytes) (del AF.name name.data.toList S.a.files))) (Nat.succ_le_succ h.chg) hl (enters_of Tryz.func102 (by kernel_rfl) rfl) fun w2 hb2 => ?_).mono fun e w' ⟨he, T, hT, hD, hk⟩ => ⟨he, T.counted, hT, hD, Dsk.trans (.of_below hb) hk⟩
            exact movefn_any base K d S w2 ((h.below hb).below hb2) hl name dst hs hts hto F h2 _ _ _ _ ((hb2.block _ (block_lt x3)).trans x3) ((hb2.block _ (block_lt x0)).trans x0) ((hb2.block _ (block_lt x1)).trans x1) ((hb2.block _ (block_lt x2)).trans x2)
  · rw [if_pos (by simpa using ha)]
    exact (move_err base K d S name dst _ w h hs ha (.inl rfl)).mono fun e w' ⟨he, hb⟩ => did_same h hl he hb
theorem sync_op (base K d : Nat) (S : WD) (w : World) (h : DiskAt Tryz.prog M base K d w S) :
    Calls Tryz.prog 33 #[.pointer (some ⟨d, 0, none⟩)] w (Did Tryz.prog M base K d w S.a.doSync) := by
  unfold A.doSync
  cases hd : S.a.down with
  | true =>
    simp only [if_true]
    exact (sync_dead base K d S w h hd).mono fun e w' ⟨he, hb⟩ => ⟨he, S, rfl, by rw [hb]; exact h, by rw [hb]; exact Tch.refl _ _⟩
  | false =>
    simp only [Bool.false_eq_true, if_false]
    exact sync_live base K d S w h hd
theorem crash_op (base K d : Nat) (S : WD) (keep torn : Int) (w : World) (h : DiskAt Tryz.prog M base K d w S) (hbase : base ≤ w.heap.size) :
    Calls Tryz.prog 16 #[.pointer (some ⟨d, 0, none⟩), .int .i64 keep, .int .i64 torn] w fun e w' => e = .returned (.tuple #[]) ∧ ∃ T : WD, T.a = S.a.crash keep torn ∧ DiskAt Tryz.prog M base K d w' T ∧ Dsk M base w w' := by
  cases hd : S.a.down with
  | true => exact (crash_dead base K d S keep torn w h hd).mono fun e w' ⟨he, hb⟩ => ⟨he, S, by unfold A.crash; rw [if_pos hd], by rw [hb]; exact h, by rw [hb]; exact Tch.refl _ _⟩
  | false => exact crash_live base K d S keep torn w h hbase hd
theorem up_op (base K d : Nat) (S : WD) (w : World) (h : DiskAt Tryz.prog M base K d w S) :
    Calls Tryz.prog 17 #[.pointer (some ⟨d, 0, none⟩)] w fun e w' => e = .returned (.bool S.a.down) ∧ ∃ T : WD, T.a = { S.a with down := false } ∧ DiskAt Tryz.prog M base K d w' T ∧ Dsk M base w w' := by
  cases hd : S.a.down with
  | true => exact (up_any base K d S w h hd).mono fun e w' ⟨he, hD, hk⟩ => ⟨he, _, rfl, hD, hk⟩
  | false =>
    have hrow := h.row
    unfold drow at hrow
    rw [hd] at hrow
    exact (up_on d _ _ _ _ _ w hrow).mono fun e w' ⟨he, hb⟩ => ⟨he, S, by rw [← hd], by rw [hb]; exact h, by rw [hb]; exact Tch.refl _ _⟩
theorem room_op (base K d : Nat) (S : WD) (n : Int) (w : World) (h : DiskAt Tryz.prog M base K d w S) :
    Calls Tryz.prog 35 #[.pointer (some ⟨d, 0, none⟩), .int .i64 n] w fun e w' => e = .returned (.tuple #[]) ∧ ∃ T : WD, T.a = { S.a with room := n } ∧ DiskAt Tryz.prog M base K d w' T ∧ Dsk M base w w' := by
  have hrow := h.row
  unfold drow at hrow
  refine (room_any d _ _ _ _ _ _ n w hrow).mono fun e w' ⟨he, hr, t⟩ => ⟨he, { S with a := { S.a with room := n }, rm := n }, rfl, ?_⟩
  exact h.reset (S' := { S with a := { S.a with room := n }, rm := n }) hr t rfl rfl rfl rfl rfl (fun _ => rfl) h.chg (Nat.le_refl _) h.lim
end Go.Proofs.YtoineobjmllicaaGreatDoor
