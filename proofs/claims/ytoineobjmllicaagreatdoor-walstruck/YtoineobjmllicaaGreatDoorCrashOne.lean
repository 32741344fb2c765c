/- Several texts in one: DiskCrash. -/
import Derived.Test.YtoineobjmllicaaGreatDoorStepOne
import Derived.Test.YtoineobjmllicaaGreatDoorDkTwo
import Derived.Test.YtoineobjmllicaaGreatDoorQuietAll
import Derived.BigQuiet
/- Contract of a loss of power. -/
namespace Go.Dk
open Go.RowKit Go.Maps
variable {M : Nat → Prop}
def A.crash (a : A) (keep torn : Int) : A := if a.down = true then a else { a with files := (a.files.filter (·.there keep torn)).map (·.fallen keep torn), down := true }
theorem left_len {K : Nat} {f : AF} (h : Small K f) (n : Nat) (t : Int) : (f.left n t).1.length ≤ 2000 * K := by
  unfold AF.left
  cases hp : f.puts[n]? with
  | none => exact h.lens n
  | some p =>
    simp only
    split
    · have hpl : n < f.puts.length := (List.getElem?_eq_some_iff.1 hp).1
      have := h.lens (n + 1)
      unfold AF.after at this
      rw [List.take_succ_eq_append_getElem hpl, List.foldl_append] at this
      rw [List.getElem?_eq_getElem hpl] at hp
      rw [Option.some.inj hp] at this
      simp only [List.foldl_cons, List.foldl_nil] at this
      refine Nat.le_trans ?_ this
      show (app (f.after n) _).length ≤ (app (f.after n) p).length
      unfold app
      simp only
      split
      · simp; omega
      · simp; omega
    · exact h.lens n
theorem Small.settle {K : Nat} {f : AF} (h : Small K f) (l : Bs) (hl : l.length ≤ 2000 * K) : Small K (f.settle l) :=
  ⟨Nat.zero_le _, fun i => by unfold AF.after AF.settle; simpa using hl, h.name⟩
/-- The disk while files fall one behind the other. -/
def WD.falling (S : WD) (gs rest : List WF) : WD := ⟨{ S.a with files := (gs ++ rest).map WF.a, down := true }, S.rm, S.mb, S.pv, gs ++ rest⟩
variable {P : Program} {base K d : Nat} {w w' : World} {S : WD}
theorem falling_settled {gs rest : List WF} {F : WF} (h : DiskAt P M base K d w (S.falling gs (F :: rest))) {l : Bs} (hl : l.length ≤ 2000 * K) (hs : SettledTo base w w' F l) :
    ∃ F', F'.a = F.a.settle l ∧ DiskAt P M base K d w' (S.falling gs (F' :: rest)) ∧ Dsk M base w w' := by
  obtain ⟨F', h1, h2, h3, h4, h5⟩ := hs
  have hm : F ∈ (S.falling gs (F :: rest)).fs := by show F ∈ gs ++ F :: rest; simp
  have e : F'.nm = F.nm := by unfold WF.nm; rw [h1]; rfl
  obtain ⟨k1, k2⟩ := h.file hm e h2 h4 h3 (fun b hb => .inl (h5 b hb)) (by rw [h1]; exact (h.small F hm).settle l hl)
  refine ⟨F', h1, ?_, k2⟩
  have := ins_mid (nm := WF.nm) e (gs := gs) (rest := rest) h.files.rises
  have hk : (S.falling gs (F :: rest)).withF (ins WF.nm F' (gs ++ F :: rest)) = S.falling gs (F' :: rest) := by rw [this]; rfl
  rw [← hk]
  exact k1
theorem falling_gone {gs rest : List WF} {F : WF} (h : DiskAt P M base K d w (S.falling gs (F :: rest))) {b n : Nat} (hb : S.mb = some b) (hn : n ≤ K) (hown : w'.ownsMap P 9 Rp b n ((Dfs (gs ++ F :: rest)).del (.string F.nm))) (t : w.mapTurned w' b) :
    DiskAt P M base K d w' (S.falling gs rest) ∧ Dsk M base w w' := by
  obtain ⟨k1, k2⟩ := h.gone hb hn F.nm hown t
  refine ⟨?_, k2⟩
  have := del_mid (nm := WF.nm) (gs := gs) (rest := rest) (F := F) h.files.rises
  have hk : (S.falling gs (F :: rest)).withF (del WF.nm F.nm (gs ++ F :: rest)) = S.falling gs rest := by rw [this]; rfl
  rw [← hk]
  exact k1
theorem row_form {w : World} {base e k n : Nat} {v : Value} {xs : List Value} (h : w.ownsRow base e k v n xs) : ∃ a c, v = .slice a n c := by
  rcases h.2 with ⟨e, h0⟩ | ⟨g, cap, cur, e, _⟩
  · exact ⟨none, 0, by rw [h0]; exact e⟩
  · exact ⟨_, _, e⟩
theorem falling_snoc (S : WD) (gs rest : List WF) (F : WF) : S.falling gs (F :: rest) = S.falling (gs ++ [F]) rest := by
  unfold WD.falling
  simp
theorem falling_map {gs rest : List WF} {F : WF} (h : DiskAt P M base K d w (S.falling gs (F :: rest))) : ∃ b n, S.mb = some b ∧ n ≤ K ∧ w.ownsMap P 9 Rp b n (Dfs (gs ++ F :: rest)) := by
  rcases h.map with ⟨_, hn⟩ | ⟨b, n, hm, _, hn, hown⟩
  · exact absurd (show gs ++ F :: rest = [] from hn) (by simp)
  · exact ⟨b, n, hm, hn, hown⟩
theorem drop_cons {α : Type} {l : List α} {i : Nat} (h : i < l.length) : ∃ x, l[i]? = some x ∧ l.drop i = x :: l.drop (i + 1) := ⟨l[i], List.getElem?_eq_getElem h, List.drop_eq_getElem_cons h⟩
theorem take_snoc {α : Type} {l : List α} {i : Nat} {x : α} (h : l[i]? = some x) : l.take (i + 1) = l.take i ++ [x] := by
  have hl := (List.getElem?_eq_some_iff.1 h).1
  rw [List.take_succ_eq_append_getElem hl]
  rw [List.getElem?_eq_getElem hl] at h
  rw [Option.some.inj h]
/-- Which files are left of the first i. -/
def fell (fs : List WF) (keep torn : Int) (i : Nat) : List AF := (((fs.take i).map WF.a).filter (·.there keep torn)).map (·.fallen keep torn)
theorem fell_stay {fs : List WF} {keep torn : Int} {i : Nat} {F : WF} (h : fs[i]? = some F) (ht : F.a.there keep torn = true) : fell fs keep torn (i + 1) = fell fs keep torn i ++ [F.a.fallen keep torn] := by
  unfold fell
  rw [take_snoc h]
  simp [ht]
theorem fell_gone {fs : List WF} {keep torn : Int} {i : Nat} {F : WF} (h : fs[i]? = some F) (ht : F.a.there keep torn = false) : fell fs keep torn (i + 1) = fell fs keep torn i := by
  unfold fell
  rw [take_snoc h]
  simp [ht]
end Go.Dk
namespace Go.Proofs.YtoineobjmllicaaGreatDoor
open Go.RowKit Go.Dk Go.Maps
variable {M : Nat → Prop}
theorem crash_nil (keep torn : Int) (w : World) : Calls Tryz.prog 16 #[.pointer none, .int .i64 keep, .int .i64 torn] w fun e w' => e = .returned (.tuple #[]) ∧ w' = w := by
  go_enter Tryz.func16, Tryz.ntmps16
  go_wp2_with (go_at_call 27; refine (dead_nil _).mono ?_; rintro e w' ⟨rfl, rfl⟩)
  (try simp only [Exit.inBlock, Exit.then])
  refine bodyPost_ret (results_none rfl _ _ _) rfl ?_
  exact ⟨rfl, rfl⟩
theorem crash_dead (base K d : Nat) (S : WD) (keep torn : Int) (w : World) (h : DiskAt Tryz.prog M base K d w S) (hd : S.a.down = true) : Calls Tryz.prog 16 #[.pointer (some ⟨d, 0, none⟩), .int .i64 keep, .int .i64 torn] w fun e w' => e = .returned (.tuple #[]) ∧ w' = w := by
  have HD := hide (dead_any d _ _ _ _ _ _ w h.row)
  rw [hd] at HD
  clear h
  go_enter Tryz.func16, Tryz.ntmps16
  go_wp2_with (go_at_call 27; refine HD.out.mono ?_; rintro e w' ⟨rfl, rfl⟩)
  (try simp only [Exit.inBlock, Exit.then])
  refine bodyPost_ret (results_none rfl _ _ _) rfl ?_
  exact ⟨rfl, rfl⟩
set_option maxRecDepth 5000 in
set_option maxHeartbeats 2000000 in
theorem crash_live (base K d : Nat) (S : WD) (keep torn : Int) (w : World) (h : DiskAt Tryz.prog M base K d w S) (hbase : base ≤ w.heap.size) (hd : S.a.down = false) :
    Calls Tryz.prog 16 #[.pointer (some ⟨d, 0, none⟩), .int .i64 keep, .int .i64 torn] w fun e w' => e = .returned (.tuple #[]) ∧ ∃ S', S'.a = S.a.crash keep torn ∧ DiskAt Tryz.prog M base K d w' S' ∧ Dsk M base w w' := by
  have HD := hide (dead_any d _ _ _ _ _ _ w h.row)
  rw [hd] at HD
  have hrow := h.row
  unfold drow at hrow
  obtain ⟨-, -, -, -, -, c5, fz⟩ := cells6 hrow
  have f5 := fz 5
  obtain ⟨w0, hw0⟩ : ∃ w0, w.setCell ⟨d, 5, none⟩ (.bool true) = w0 := ⟨_, rfl⟩
  have h0 : DiskAt Tryz.prog M base K d w0 (S.falling [] S.fs) ∧ Dsk M base w w0 := by
    rw [← hw0]
    refine h.reset ?_ (.set _ _ _ _ rfl) rfl rfl rfl rfl h.same h.rm h.chg (Nat.le_refl _) h.lim
    rw [heap_setCell_same _ _ _ _ _ _ h.row]
    rfl
  have HW0 := hide hw0
  have H0 := hide h0
  have HN : Hid (Calls Tryz.prog 24 #[.pointer (some ⟨d, 0, none⟩)] w0 fun e w' => ∃ v, e = .returned v ∧ w'.ownsRow w0.heap.size 9 1 v S.fs.length ((S.fs.map WF.nm).map encStr) ∧ Below w0.heap.size w0 w') := names_any base K d (S.falling [] S.fs) w0 h0.1
  have HF : Hid (∀ S' : WD, S'.a = { S.a with files := fell S.fs keep torn S.fs.length, down := true } → S'.a = S.a.crash keep torn) := fun S' e => by
    rw [e]
    unfold A.crash fell
    rw [hd, List.take_length, h.same]
    rfl
  have hcnt := h.count
  have hlim := h.lim
  clear hw0 h0 hrow fz h hd
  go_enter Tryz.func16, Tryz.ntmps16
  go_wp2_with (first
    | (go_at_call 27; refine HD.out.mono ?_; rintro e w' ⟨rfl, rfl⟩)
    | (go_at_call 24; rw [HW0.out]; refine HN.out.mono ?_; rintro e w1 ⟨v, rfl, hrow1, hb1⟩; obtain ⟨a, c, hv⟩ := row_form hrow1; subst hv))
  have HNm : Hid (∀ (i : Nat) (F : WF), S.fs[i]? = some F → ∃ g cur, a = some ⟨g, 0, none⟩ ∧ S.fs.length ≤ c ∧ w1.heap[g]? = some (.cells cur 9 (0, 0)) ∧ cur[i]? = some (.string ⟨F.nm.toArray⟩)) := fun i F hi => by
    have hil := (List.getElem?_eq_some_iff.1 hi).1
    rcases hrow1.2 with ⟨_, h0⟩ | ⟨g, cap, cur, e, _, hg, hle, _, hsz, htk⟩
    · omega
    · cases e
      refine ⟨g, cur, rfl, hle, hg, ?_⟩
      have : ((S.fs.map WF.nm).map encStr)[i]? = some (.string ⟨F.nm.toArray⟩) := by simp [hi, encStr]
      rw [← htk, List.getElem?_take_of_lt (by omega), Array.getElem?_toList] at this
      exact this
  have H1 : Hid (DiskAt Tryz.prog M base K d w1 (S.falling [] S.fs) ∧ Dsk M base w' w1) := ⟨H0.out.1.below hb1, Dsk.trans H0.out.2 (.of_below hb1)⟩
  clear hrow1 hb1 HN HD HW0 c5 f5 H0
  generalize hn : S.fs.length = n at *
  have HnL := hide hn
  clear hn
  go_loopw [17] (fun v wr => ∃ (i : Nat) (gs : List WF), i ≤ n ∧ v = .int .i64 i ∧ Hid (gs.map WF.a = fell S.fs keep torn i ∧ DiskAt Tryz.prog M base K d wr (S.falling gs (S.fs.drop i)) ∧ Dsk M base w1 wr)) (fun v _ => n - (intOf v).toNat)
  case atStart => exact ⟨0, [], Nat.zero_le _, rfl, rfl, H1.out.1, Tch.refl _ _⟩
  case round =>
    obtain ⟨i, gs, hi, rfl, HR⟩ := hrel
    by_cases hlt : i < n
    · obtain ⟨F, hF, hdrop⟩ := drop_cons (l := S.fs) (i := i) (by rw [HnL.out]; exact hlt)
      obtain ⟨g, cur, ha, hcap, hg, hcur⟩ := HNm.out i F hF
      subst ha
      have HD : Hid (DiskAt Tryz.prog M base K d wr (S.falling gs (F :: S.fs.drop (i + 1)))) := by rw [Hid, ← hdrop]; exact HR.out.2.1
      have hgr : wr.heap[g]? = some (.cells cur 9 (0, 0)) := (HR.out.2.2.block g (block_lt hg) fun hm => by
        obtain ⟨_, o, ho, hk⟩ := hm
        rw [hg] at ho
        cases ho
        rcases hk with hk | ⟨hk, _⟩ | hk | hk | hk <;> cases hk).trans hg
      have hmem : F ∈ (S.falling gs (F :: S.fs.drop (i + 1))).fs := by show F ∈ gs ++ F :: _; simp
      have hname := (HD.out.small F hmem).name
      have hsz : (⟨F.nm.toArray⟩ : ByteArray).size ≤ maxLen := by
        have : F.nm.length ≤ 240 := by
          unfold nameOk at hname
          simp only [Bool.and_eq_true, decide_eq_true_eq] at hname
          exact hname.1.2
        show F.nm.toArray.size ≤ _
        simp only [List.size_toArray]
        unfold maxLen
        omega
      have hl : ∀ m, (Instr.lookup 65 (.map S.mb) (.string ⟨F.nm.toArray⟩) false).run Tryz.prog (wr.drewN m) = .ok (.pointer (some ⟨F.blk, 0, none⟩)) (wr.drewN m) := fun m => by
        have := look_any (w := wr.drewN m) (HD.out.below ⟨rfl, rfl, rfl, Nat.le_refl _, fun _ _ => rfl⟩) ⟨F.nm.toArray⟩ hsz
        rw [show seek WF.nm (⟨F.nm.toArray⟩ : ByteArray).data.toList (S.falling gs (F :: S.fs.drop (i + 1))).fs = some F from seek_mem HD.out.files.rises hmem] at this
        exact this
      obtain ⟨c0, -⟩ := cells6 HD.out.row
      have c0' : wr.cell? ⟨d, 0, none⟩ = some (.map S.mb) := c0
      have cn : wr.cell? ⟨g, i, none⟩ = some (.string ⟨F.nm.toArray⟩) := by rw [cell_of_row _ _ _ _ _ _ hgr]; exact hcur
      have HFA : Hid (∀ m, Calls Tryz.prog 48 #[.pointer (some ⟨F.blk, 0, none⟩), .int .i64 keep, .int .i64 torn] (wr.drewN m) fun e w' => e = .returned (.bool (F.a.there keep torn)) ∧ SettledTo base (wr.drewN m) w' F (F.a.left (stays keep F.a.puts.length) torn).1) := fun m =>
        fall_any base F (wr.drewN m) ((HD.out.below (w' := wr.drewN m) ⟨rfl, rfl, rfl, Nat.le_refl _, fun _ _ => rfl⟩).files.files F hmem) keep torn (HD.out.pieces hmem).1 (HD.out.pieces hmem).2.1
      have HLen : Hid ((F.a.left (stays keep F.a.puts.length) torn).1.length ≤ 2000 * K) := left_len (HD.out.small F hmem) _ _
      clear c0 hname hg hgr hcur hdrop hmem
      have hin : (i : Int) < (n : Int) := by omega
      have hi0 : (0 : Int) ≤ (i : Int) := by omega
      generalize hB : F.blk = B at hl HFA
      clear hB
      go_wp2_with fail
      refine QTail.wp_region_tail (fun w' => ∃ n, w' = wr.drewN n) 11 (by kernel_rfl) (by kernel_rfl) ⟨1, rfl⟩ ?_
      simp only [List.take_succ_cons, List.take_zero, List.drop_succ_cons, List.drop_zero]
      repeat (first | go_big_quiet_step (fail) | quiet_step (fail))
      refine wpQuiet_nil ?_
      rintro _ ⟨nq, rfl⟩
      have HDQ : Hid (DiskAt Tryz.prog M base K d (wr.drewN nq) (S.falling gs (F :: S.fs.drop (i + 1)))) := HD.out.below ⟨rfl, rfl, rfl, Nat.le_refl _, fun _ _ => rfl⟩
      have HDr : Hid (Dsk M base w1 (wr.drewN nq)) := HR.out.2.2.drewN nq
      clear hl c0' HD
      cases ht : F.a.there keep torn with
      | true =>
        rw [ht] at HFA
        go_wp2_with (go_at_call 48; refine (HFA.out _).mono ?_; rintro e w2 ⟨rfl, hset⟩)
        obtain ⟨F', hFa, hD2, hk2⟩ := falling_settled HDQ.out HLen.out hset
        have hrel : (gs ++ [F']).map WF.a = fell S.fs keep torn (i + 1) := by rw [fell_stay hF ht, List.map_append, HR.out.1]; simp [hFa, AF.fallen]
        rw [falling_snoc] at hD2
        have HR2 := hide (And.intro hrel (And.intro hD2 (Dsk.trans HDr.out hk2)))
        clear hset hD2 hk2 hrel HDQ HDr HFA HR ht
        go_roundw
        case rel => exact ⟨i + 1, _, by omega, by go_num, HR2.out⟩
        case measure => simp [intOf]; omega
      | false =>
        rw [ht] at HFA
        go_wp2_with (go_at_call 48; refine (HFA.out _).mono ?_; rintro e w2 ⟨rfl, hset⟩)
        obtain ⟨F', hFa, hD2, hk2⟩ := falling_settled HDQ.out HLen.out hset
        have hnm : F'.nm = F.nm := by unfold WF.nm; rw [hFa]; rfl
        have hrel : gs.map WF.a = fell S.fs keep torn (i + 1) := by rw [fell_gone hF ht]; exact HR.out.1
        obtain ⟨b, m, hmb, hmK, hown⟩ := falling_map hD2
        obtain ⟨c0, -⟩ := cells6 hD2.row
        have c0' : w2.cell? ⟨d, 0, none⟩ = some (.map (some b)) := by rw [← hmb]; exact c0
        have hg2 : w2.cell? ⟨g, i, none⟩ = some (.string ⟨F.nm.toArray⟩) := by
          obtain ⟨g', cur', e1, _, e2, e3⟩ := HNm.out i F hF
          cases e1
          have : w2.heap[g]? = w1.heap[g]? := (Dsk.trans HDr.out hk2).block g (block_lt e2) fun hm => by
            obtain ⟨_, o, ho, hk⟩ := hm
            rw [e2] at ho
            cases ho
            rcases hk with hk | ⟨hk, _⟩ | hk | hk | hk <;> cases hk
          rw [cell_of_row _ _ _ _ _ _ (this.trans e2)]
          exact e3
        have hkey : keyOf Tryz.prog 9 (.string ⟨F.nm.toArray⟩) = some (.string F.nm) := WideMaps.keyOf_string_mk (s := ⟨F.nm.toArray⟩) Tryz.underlying9 hsz
        have HD2 := hide hD2
        have HK2 := hide (Dsk.trans HDr.out hk2)
        have HO : Hid (∀ q, (w2.drewN q).ownsMap Tryz.prog 9 Rp b m (Dfs (gs ++ F' :: S.fs.drop (i + 1)))) := fun q => hown
        clear hset hD2 hk2 HDQ HDr HFA hown c0 cn HLen ht
        go_wp2_with fail
        refine QTail.wp_region_tail (fun w' => ∃ n, w' = w2.drewN n) 8 (by kernel_rfl) (by kernel_rfl) ⟨1, rfl⟩ ?_
        simp only [List.take_succ_cons, List.take_zero, List.drop_succ_cons, List.drop_zero]
        repeat (first | go_big_quiet_step (fail) | quiet_step (fail))
        refine wpQuiet_nil ?_
        rintro _ ⟨nq2, rfl⟩
        go_wp2_with (first
          | (at_delete; refine wpList_delete_own _ rfl _ _ 65 9 rfl 79 law9 Tryz.underlying65 _ b m _ rfl (HO.out nq2) _ _ rfl hkey ?_; intro w3 hown3 hturn3)
          | go_in)
        have hD3 := falling_gone (HD2.out.below (w' := w2.drewN nq2) ⟨rfl, rfl, rfl, Nat.le_refl _, fun _ _ => rfl⟩) hmb hmK (by rw [hnm]; exact hown3) hturn3
        have HR3 := hide (And.intro hrel (And.intro hD3.1 (Dsk.trans (HK2.out.drewN nq2) hD3.2)))
        clear hown3 hturn3 hD3 HR HD2 HK2 HO
        go_roundw
        case rel => exact ⟨i + 1, _, by omega, by go_num, HR3.out⟩
        case measure => simp [intOf]; omega
    · have hin : i = n := by omega
      subst hin
      go_wp2
      go_end0
      obtain ⟨h1, h2, h3⟩ := HR.out
      rw [List.drop_of_length_le (by rw [HnL.out]; exact Nat.le_refl _)] at h2
      refine ⟨rfl, _, HF.out _ ?_, h2, Dsk.trans H1.out.2 h3⟩
      rw [← h1]
      show ({ S.a with files := (gs ++ []).map WF.a, down := true } : A) = _
      rw [List.append_nil]
end Go.Proofs.YtoineobjmllicaaGreatDoor
