/- Contract: the document's disk behind a loss of power. -/
import Derived.Test.YtnjkahoaogeecaaDiskRefWithout
namespace Go.Dk
open Go.RowKit
def RF.fallen (r : RF) (keep torn : Int) : RF := ⟨r.a.fallen keep torn, .slice none 0 0⟩
def outs (keep torn : Int) (l : List RF) : List RF := (l.filter fun r => r.a.there keep torn).map fun r => r.fallen keep torn
def RD.crash (D : RD) (keep torn : Int) (fv : Value) : RD := ⟨{ D.a with files := (D.a.files.filter (·.there keep torn)).map (·.fallen keep torn), down := true }, fv, D.lv, outs keep torn D.rs⟩
theorem outs_snoc {keep torn : Int} {l : List RF} {i : Nat} {r : RF} (h : l[i]? = some r) : outs keep torn (l.take (i + 1)) = outs keep torn (l.take i) ++ if r.a.there keep torn = true then [r.fallen keep torn] else [] := by
  unfold outs
  rw [take_snoc h, List.filter_append, List.map_append]
  congr 1
  by_cases e : r.a.there keep torn = true
  · simp [e]
  · simp [e]
theorem cells4 {w : World} {g : Nat} {a b c d : Value} {T : TypeId} (h : w.heap[g]? = some (.cells #[a, b, c, d] T (0, 0))) :
    w.cell? ⟨g, 0, none⟩ = some a ∧ w.cell? ⟨g, 1, none⟩ = some b ∧ w.cell? ⟨g, 2, none⟩ = some c ∧ w.cell? ⟨g, 3, none⟩ = some d :=
  ⟨cell_of_row _ _ _ _ _ _ h, cell_of_row _ _ _ _ _ _ h, cell_of_row _ _ _ _ _ _ h, cell_of_row _ _ _ _ _ _ h⟩
theorem own_below {w w' : World} {base e k n : Nat} {v : Value} {xs : List Value} (h : w.ownsRow base e k v n xs) (hb : Below w.heap.size w w') : w'.ownsRow base e k v n xs :=
  h.kept (row := none) ⟨hb.os, hb.tape, hb.output, hb.size, fun k hk _ => hb.block k hk⟩ (by cases v.ownBlock <;> simp)
theorem stays_le (keep : Int) (n : Nat) : stays keep n ≤ n := Nat.min_le_right _ _
theorem outs_len (keep torn : Int) (l : List RF) : (outs keep torn l).length ≤ l.length := by
  unfold outs
  rw [List.length_map]
  exact List.length_filter_le _ _
theorem RefAt.crash {K : Nat} {w w' : World} {D : RD} {v : Value} {keep torn : Int} (h : RefAt K w D) (hb : Below w.heap.size w w') (hv : Sees w' v 4 (outs keep torn D.rs).length ((outs keep torn D.rs).flatMap RF.cs)) : RefAt K w' (D.crash keep torn v) := by
  refine ⟨hv, fun x hx => ?_, ?_, h.falls.below hb, ?_, fun x hx => ?_, Nat.le_trans (outs_len _ _ _) h.count, h.chg, h.lim⟩
  · obtain ⟨r, _, rfl⟩ := List.mem_map.1 hx
    exact ⟨by simp [RF.fallen, AF.fallen, AF.settle], .inl ⟨rfl, rfl⟩⟩
  · show (outs keep torn D.rs).map RF.a = (D.a.files.filter (·.there keep torn)).map (·.fallen keep torn)
    unfold outs
    rw [← h.same, List.filter_map, List.map_map, List.map_map]
    rfl
  · show Rises RF.nm (outs keep torn D.rs)
    unfold outs Rises
    rw [List.pairwise_map]
    exact List.Pairwise.filter _ h.rises
  · obtain ⟨r, hr, rfl⟩ := List.mem_map.1 hx
    have hs := h.small r (List.mem_filter.1 hr).1
    exact hs.settle _ (left_len hs _ _)
theorem news4 (w : World) (a b c d : Value) (T : TypeId) : ∀ j u, [a, b, c, d][j]? = some u → (w.alloc (.cells #[a, b, c, d] T)).cell? ((⟨w.heap.size, 0, none⟩ : Addr).add j) = some u := fun j u hj => by
  rw [add_lit, Nat.zero_add, cell_of_row _ _ _ _ _ _ (heap_alloc_new w _)]
  simpa using hj
theorem txt_take (l : Bs) (k : Nat) : (⟨l.toArray⟩ : ByteArray).extract 0 k = ⟨(l.take k).toArray⟩ := by
  have : ∀ x y : ByteArray, x.data.toList = y.data.toList → x = y := fun x y h => by
    obtain ⟨⟨x⟩⟩ := x
    obtain ⟨⟨y⟩⟩ := y
    simp_all
  apply this
  rw [ByteArray.data_extract, Array.toList_extract]
  simp
theorem fallen_cs (r : RF) (keep torn : Int) : (r.fallen keep torn).cs = [txt r.a.name, txt (r.a.left (stays keep r.a.puts.length) torn).1, .bool true, .slice none 0 0] := rfl
end Go.Dk
namespace Go.Proofs.Ytnjkahoaogeecaa
open Go.RowKit Go.Dk
theorem tinfo_ex : ∃ i, Try.prog.info? 52 = some i ∧ i.zero = some (.agg #[.string ⟨#[]⟩, .string ⟨#[]⟩, .bool false, .slice none 0 0]) ∧ i.size = 4 ∧ i.bytes = 64 := by
  have := info52
  cases hx : Try.prog.info? 52 with
  | none => rw [hx] at this; cases this
  | some i => rw [hx] at this; simp at this; exact ⟨i, rfl, this.1, this.2.1, this.2.2⟩
set_option maxRecDepth 100000 in
set_option maxHeartbeats 4000000 in
theorem rcrash_live (K : Nat) (D : RD) (keep torn : Int) (w : World) (h : RefAt K w D) (hd : D.a.down = false) :
    Calls Try.prog 32 #[D.v, .int .i64 keep, .int .i64 torn] w fun e w' => ∃ fv, e = .returned (D.crash keep torn fv).v ∧ RefAt K w' (D.crash keep torn fv) ∧ Below w.heap.size w w' := by
  have HF : Hid (∀ i, i < D.rs.length → ∃ r, D.rs[i]? = some r ∧ (∃ b off cap, D.fv = .slice (some ⟨b, off, none⟩) D.rs.length cap ∧ D.rs.length ≤ cap ∧ b < w.heap.size ∧ w.cell? ⟨b, off + i * 4, none⟩ = some (txt r.a.name) ∧ w.cell? ⟨b, off + i * 4 + 1, none⟩ = some (txt r.a.sure) ∧ w.cell? ⟨b, off + i * 4 + 2, none⟩ = some (.bool r.a.settled) ∧ w.cell? ⟨b, off + i * 4 + 3, none⟩ = some r.pv) ∧
      PutsV w r.pv r.a.puts ∧ Small K r.a) := fun i hi => by
    have hr : D.rs[i]? = some D.rs[i] := List.getElem?_eq_getElem hi
    have hm := List.mem_of_getElem? hr
    exact ⟨_, hr, h.files.file hr, h.puts _ hm, h.small _ hm⟩
  obtain ⟨tinfo, hti, htz, hts, htb⟩ := tinfo_ex
  have HTI := hide (And.intro hti (And.intro htz (And.intro hts htb)))
  clear hti htz hts htb
  obtain ⟨la, lc, hlv⟩ := Sees.form h.falls
  obtain ⟨fa, fc, hfv⟩ := Sees.form h.files
  have hlim := h.lim
  have hcnt := h.count
  unfold RD.v RD.cs
  rw [hfv] at HF
  rw [hfv, hlv, hd]
  clear hfv
  generalize hrs : D.rs.length = n at *
  have HN := hide hrs
  clear hrs
  go_enter Try.func32, Try.ntmps32
  go_wp2
  go_loopw [7, 8] (fun v vi wr => ∃ i : Nat, i ≤ n ∧ vi = .int .i64 i ∧ Hid (Below (w.heap.size + 2) ((w.alloc (.cells #[.slice fa n fc, .int .i64 D.a.room, .slice la (flen D.a.fall) lc, .int .i64 D.a.changes, .bool false] 27)).alloc (.cells #[Value.slice none 0 0, Value.int IntKind.i64 0, Value.slice none 0 0, Value.int IntKind.i64 0, Value.bool false] 27)) wr ∧ wr.ownsRow (w.heap.size + 2) 52 4 v (outs keep torn (D.rs.take i)).length ((outs keep torn (D.rs.take i)).flatMap RF.cs))) (fun _ vi _ => n - (intOf vi).toNat)
  case atStart =>
    refine ⟨0, Nat.zero_le _, rfl, ?_, ?_⟩
    · exact (Below.refl _ _).alloc (by simp) _
    · have := World.ownsRow_made (base := w.heap.size + 2) (e := 52) (size := 4) ((w.alloc (.cells #[.slice fa n fc, .int .i64 D.a.room, .slice la (flen D.a.fall) lc, .int .i64 D.a.changes, .bool false] 27)).alloc (.cells #[Value.slice none 0 0, Value.int IntKind.i64 0, Value.slice none 0 0, Value.int IntKind.i64 0, Value.bool false] 27)) #[] 0 (by simp) (Nat.zero_le _) rfl
      simpa [outs] using this
  case round =>
    obtain ⟨i, hi, rfl, HB⟩ := hrel
    obtain ⟨x2, x4, kb⟩ := two_below (w := w) (w1 := wr) (HB.out.1.mono (by simp))
    obtain ⟨c0, c1, c2, c3, c4⟩ := cells5 x2
    have HX := hide (And.intro x2 (And.intro x4 kb))
    clear x2 x4
    by_cases hlt : i < n
    · obtain ⟨r, hr, ⟨b, off, cap, hv, hcap, hbw, d0, d1, d2, d3⟩, hput, hsm⟩ := HF.out i hlt
      cases hv
      have e : ∀ k u, w.cell? ⟨b, k, none⟩ = some u → wr.cell? ⟨b, k, none⟩ = some u := fun k u hu => (kb.cell (p := ⟨b, k, none⟩) hbw).trans hu
      have q0 := e _ _ d0
      have q1 := e _ _ d1
      have q2 := e _ _ d2
      have q3 := e _ _ d3
      have HP : Hid (∀ w1, Below wr.heap.size wr w1 → PutsV w1 r.pv r.a.puts) := fun w1 hb => Sees.below hput (kb.trans (hb.mono kb.size))
      have hpl := hsm.puts
      have HL : Hid (∀ j, (r.a.after j).length ≤ 1000000000) := hsm.after hlim
      obtain ⟨pa, pc, hpv⟩ := Sees.form hput
      rw [hpv] at q3
      clear d0 d1 d2 d3 e hput
      unfold txt at q0 q1
      have HSN := hide (outs_snoc (keep := keep) (torn := torn) hr)
      clear hr
      have hplen : r.a.puts.length ≤ 100000 := by omega
      obtain ⟨m, hm⟩ : ∃ m, m = stays keep r.a.puts.length := ⟨_, rfl⟩
      have hml : m ≤ r.a.puts.length := by rw [hm]; exact stays_le _ _
      have HM : Hid (m = min keep.toNat r.a.puts.length) := hm
      obtain ⟨L, hL⟩ : ∃ L, L = r.a.left m torn := ⟨_, rfl⟩
      have HLE := hide hL
      have HTH : Hid (r.a.there keep torn = L.2 ∧ (r.fallen keep torn).cs = [txt r.a.name, txt L.1, .bool true, .slice none 0 0]) := by
        rw [hL, hm]
        exact ⟨rfl, rfl⟩
      have HAF : Hid (∀ w1, Below wr.heap.size wr w1 → Calls Try.prog 52 #[.agg #[.string ⟨r.a.name.toArray⟩, .string ⟨r.a.sure.toArray⟩, .bool r.a.settled, .slice pa r.a.puts.length pc], .int .i64 m] w1 fun e w' => e = .returned (.string ⟨(r.a.after m).toArray⟩) ∧ Below w1.heap.size w1 w') := fun w1 hb => by
        have := after_any r m w1 (HP.out w1 hb) hml (by omega) HL.out
        unfold RF.v RF.cs txt at this
        rw [hpv] at this
        exact this
      clear hm hL hsm
      go_upto_if 33 with fail
      go_cut [10] from 19 to 90 (fun x wx => x = .int .i64 (keep.toNat : Nat) ∧ Hid (wx.heap[wr.heap.size]? = some (.cells #[.string ⟨r.a.name.toArray⟩, .string ⟨r.a.sure.toArray⟩, .bool r.a.settled, .slice pa r.a.puts.length pc] 52 (0, 0)) ∧ Below wr.heap.size wr wx))
      case first =>
        have HG : Hid ((wr.alloc (.cells #[.string ⟨r.a.name.toArray⟩, .string ⟨r.a.sure.toArray⟩, .bool r.a.settled, .slice pa r.a.puts.length pc] 52)).heap[wr.heap.size]? = some (.cells #[.string ⟨r.a.name.toArray⟩, .string ⟨r.a.sure.toArray⟩, .bool r.a.settled, .slice pa r.a.puts.length pc] 52 (0, 0)) ∧ Below wr.heap.size wr (wr.alloc (.cells #[.string ⟨r.a.name.toArray⟩, .string ⟨r.a.sure.toArray⟩, .bool r.a.settled, .slice pa r.a.puts.length pc] 52))) := ⟨heap_alloc_new _ _, (Below.refl _ _).alloc (Nat.le_refl _) _⟩
        by_cases hk : keep < 0
        · have e0 : Hid (keep.toNat = 0) := by rw [Hid]; omega
          go_wp2
          go_meet
          exact ⟨by rw [e0.out]; rfl, HG⟩
        · have e0 : Hid ((keep.toNat : Int) = keep) := by rw [Hid]; omega
          go_wp2
          go_meet
          exact ⟨by rw [e0.out], HG⟩
      case rest =>
        obtain ⟨rfl, HG⟩ := hcut
        obtain ⟨g0, g1, g2, g3⟩ := cells4 HG.out.1
        go_upto_if 38 with fail
        go_cut [10] from 19 to 90 (fun x wx => x = .int .i64 m ∧ Hid (wx.heap[wr.heap.size]? = some (.cells #[.string ⟨r.a.name.toArray⟩, .string ⟨r.a.sure.toArray⟩, .bool r.a.settled, .slice pa r.a.puts.length pc] 52 (0, 0)) ∧ Below wr.heap.size wr wx))
        case first =>
          by_cases hk : r.a.puts.length < keep.toNat
          · go_wp2
            go_meet
            exact ⟨by rw [HM.out, Nat.min_eq_right (by omega)], HG⟩
          · go_wp2
            go_meet
            exact ⟨by rw [HM.out, Nat.min_eq_left (by omega)], HG⟩
        case rest =>
          clear g0 g1 g2 g3 HG
          obtain ⟨rfl, HG⟩ := hcut
          clear HM
          obtain ⟨g0, g1, g2, g3⟩ := cells4 HG.out.1
          go_upto_region 13 with fail
          go_cut [11, 12] from 42 to 90 (fun s t wx => s = .string ⟨(r.a.after m).toArray⟩ ∧ t = .bool (r.a.settled || decide (0 < m)) ∧ Hid (wx.heap[wr.heap.size]? = some (.cells #[.string ⟨r.a.name.toArray⟩, .string ⟨r.a.sure.toArray⟩, .bool r.a.settled, .slice pa r.a.puts.length pc] 52 (0, 0)) ∧ Below wr.heap.size wr wx))
          case first =>
            have e2 := cell_regrown g2
            clear g0 g1 g2 g3
            have HZ : Hid ((0 < m) ↔ (0 : Int) < m) := by rw [Hid]; omega
            cases hst : r.a.settled with
            | true =>
              rw [hst] at e2
              refine QuietCalls.region (by kernel_rfl) (by kernel_rfl) ?_
              refine QuietCalls.load rfl 52 (.tmp 9) rfl _ rfl 52 _ (0, 0) _ HG.out.1 Try.underlying52 rfl infoFile ?_; simp only [Act.put, List.setIfInBounds_toArray, List.set_cons_succ, List.set_cons_zero]
              iterate 1 (first | go_big_quiet_step (fail) | quiet_step (fail))
              refine QuietCalls.call2 rfl rfl Try.call52 (fun w' hb => HAF.out w' (HG.out.2.trans (hb.mono HG.out.2.size))) rfl rfl ?_; simp only [Act.put, List.setIfInBounds_toArray, List.set_cons_succ, List.set_cons_zero]
              iterate 8 (first | go_big_quiet_step (fail) | quiet_step (fail))
              refine wpQuiet_nil ?_
              intro w2 k
              go_wp2
              go_meet
              exact ⟨rfl, by rw [hst]; rfl, (k.block _ (block_lt HG.out.1)).trans HG.out.1, HG.out.2.trans (k.mono HG.out.2.size)⟩
            | false =>
              rw [hst] at e2
              by_cases hm0 : 0 < m
              · have hm1 : decide ((0 : Int) < m) = true := by simpa using hm0
                refine QuietCalls.region (by kernel_rfl) (by kernel_rfl) ?_
                refine QuietCalls.load rfl 52 (.tmp 9) rfl _ rfl 52 _ (0, 0) _ HG.out.1 Try.underlying52 rfl infoFile ?_; simp only [Act.put, List.setIfInBounds_toArray, List.set_cons_succ, List.set_cons_zero]
                iterate 1 (first | go_big_quiet_step (fail) | quiet_step (fail))
                refine QuietCalls.call2 rfl rfl Try.call52 (fun w' hb => HAF.out w' (HG.out.2.trans (hb.mono HG.out.2.size))) rfl rfl ?_; simp only [Act.put, List.setIfInBounds_toArray, List.set_cons_succ, List.set_cons_zero]
                iterate 8 (first | go_big_quiet_step (fail) | quiet_step (fail))
                refine wpQuiet_nil ?_
                intro w2 k
                go_wp2
                go_meet
                exact ⟨rfl, by simp [hst, hm0], (k.block _ (block_lt HG.out.1)).trans HG.out.1, HG.out.2.trans (k.mono HG.out.2.size)⟩
              · have hm1 : decide ((0 : Int) < m) = false := by simpa using hm0
                refine QuietCalls.region (by kernel_rfl) (by kernel_rfl) ?_
                refine QuietCalls.load rfl 52 (.tmp 9) rfl _ rfl 52 _ (0, 0) _ HG.out.1 Try.underlying52 rfl infoFile ?_; simp only [Act.put, List.setIfInBounds_toArray, List.set_cons_succ, List.set_cons_zero]
                iterate 1 (first | go_big_quiet_step (fail) | quiet_step (fail))
                refine QuietCalls.call2 rfl rfl Try.call52 (fun w' hb => HAF.out w' (HG.out.2.trans (hb.mono HG.out.2.size))) rfl rfl ?_; simp only [Act.put, List.setIfInBounds_toArray, List.set_cons_succ, List.set_cons_zero]
                iterate 8 (first | go_big_quiet_step (fail) | quiet_step (fail))
                refine wpQuiet_nil ?_
                intro w2 k
                go_wp2
                go_meet
                exact ⟨rfl, by simp [hst, hm0], (k.block _ (block_lt HG.out.1)).trans HG.out.1, HG.out.2.trans (k.mono HG.out.2.size)⟩
          case rest =>
            clear g0 g1 g2 g3 HG HAF
            obtain ⟨rfl, rfl, HG⟩ := hcut
            obtain ⟨g0, g1, g2, g3⟩ := cells4 HG.out.1
            go_upto_region 14 with fail
            go_cut [59] from 51 to 90 (fun t wx => t = .bool (decide (m < r.a.puts.length) && decide (0 < torn)) ∧ Hid (wx.heap[wr.heap.size]? = some (.cells #[.string ⟨r.a.name.toArray⟩, .string ⟨r.a.sure.toArray⟩, .bool r.a.settled, .slice pa r.a.puts.length pc] 52 (0, 0)) ∧ Below wr.heap.size wr wx))
            case first =>
              clear g0 g1 g2
              by_cases hm1 : m < r.a.puts.length
              · by_cases ht : 0 < torn
                · go_wp2
                  go_meet
                  exact ⟨by simp [hm1, ht], HG⟩
                · go_wp2
                  go_meet
                  exact ⟨by simp [hm1, ht], HG⟩
              · go_wp2
                go_meet
                exact ⟨by simp [hm1], HG⟩
            case rest =>
              clear g0 g1 g2 g3 HG
              obtain ⟨rfl, HG⟩ := hcut
              go_upto_if 59 with fail
              go_cut [11, 12] from 51 to 90 (fun s t wx => s = .string ⟨L.1.toArray⟩ ∧ t = .bool L.2 ∧ Hid (wx.heap[wr.heap.size]? = some (.cells #[.string ⟨r.a.name.toArray⟩, .string ⟨r.a.sure.toArray⟩, .bool r.a.settled, .slice pa r.a.puts.length pc] 52 (0, 0)) ∧ Below wr.heap.size wr wx))
              case first =>
                by_cases hm1 : m < r.a.puts.length
                · by_cases ht : 0 < torn
                  · obtain ⟨p, hp⟩ : ∃ p, r.a.puts[m]? = some p := ⟨_, List.getElem?_eq_getElem hm1⟩
                    obtain ⟨pb, po, pcap, hpe, hpc, hpb, u0, u1⟩ := PutsV.put (HP.out _ HG.out.2) hp
                    rw [hpv] at hpe
                    cases hpe
                    have hps : p.s.length ≤ 1000000000 := by
                      have := HL.out (m + 1)
                      rw [after_succ hp] at this
                      unfold app at this
                      split at this
                      · exact this
                      · rw [List.length_append] at this; omega
                    have hsl := HL.out m
                    have HLL : Hid (L = (app (r.a.after m) ⟨p.s.take (if torn < p.s.length / 8 + 1 then 8 * torn.toNat else p.s.length), p.whole⟩, true)) := by
                      rw [Hid, HLE.out]
                      unfold AF.left
                      rw [hp]
                      simp only
                      rw [if_pos ht]
                    have hz := txt_size p.s
                    obtain ⟨g0, g1, g2, g3⟩ := cells4 HG.out.1
                    clear hp HLE hpv HP g0 g1 g2
                    unfold txt at u0
                    rw [decide_eq_true hm1, decide_eq_true ht]
                    generalize r.a.after m = A at *
                    cases hw : p.whole with
                    | true =>
                      rw [hw] at u1 HLL
                      by_cases h8 : torn < p.s.length / 8 + 1
                      · rw [if_pos h8] at HLL
                        have h80 : (8 * torn).toNat = 8 * torn.toNat := by omega
                        go_wp2
                        go_meet
                        refine ⟨?_, by rw [HLL.out], row_kept HG.out.1 ((Below.refl _ _).alloc (Nat.le_refl _) _), HG.out.2.alloc HG.out.2.size _⟩
                        rw [HLL.out, txt_take]
                        exact congrArg Value.string (txt_append [] _)
                      · rw [if_neg h8] at HLL
                        go_wp2
                        go_meet
                        refine ⟨?_, by rw [HLL.out], row_kept HG.out.1 ((Below.refl _ _).alloc (Nat.le_refl _) _), HG.out.2.alloc HG.out.2.size _⟩
                        rw [HLL.out, txt_take]
                        exact congrArg Value.string (txt_append [] _)
                    | false =>
                      rw [hw] at u1 HLL
                      by_cases h8 : torn < p.s.length / 8 + 1
                      · rw [if_pos h8] at HLL
                        have h80 : (8 * torn).toNat = 8 * torn.toNat := by omega
                        go_wp2
                        go_meet
                        refine ⟨?_, by rw [HLL.out], row_kept HG.out.1 ((Below.refl _ _).alloc (Nat.le_refl _) _), HG.out.2.alloc HG.out.2.size _⟩
                        rw [HLL.out, txt_take]
                        exact congrArg Value.string (txt_append A _)
                      · rw [if_neg h8] at HLL
                        go_wp2
                        go_meet
                        refine ⟨?_, by rw [HLL.out], row_kept HG.out.1 ((Below.refl _ _).alloc (Nat.le_refl _) _), HG.out.2.alloc HG.out.2.size _⟩
                        rw [HLL.out, txt_take]
                        exact congrArg Value.string (txt_append A _)
                  · have HLL : Hid (L = (r.a.after m, r.a.settled || decide (0 < m))) := by
                      rw [Hid, HLE.out]
                      unfold AF.left
                      rw [List.getElem?_eq_getElem hm1]
                      simp only
                      rw [if_neg ht]
                    rw [decide_eq_false ht, Bool.and_false]
                    clear HLE
                    go_wp2
                    go_meet
                    rw [HLL.out]
                    exact ⟨rfl, rfl, HG⟩
                · have HLL : Hid (L = (r.a.after m, r.a.settled || decide (0 < m))) := by
                    rw [Hid, HLE.out]
                    unfold AF.left
                    rw [List.getElem?_eq_none (by omega)]
                  rw [decide_eq_false hm1, Bool.false_and]
                  clear HLE
                  go_wp2
                  go_meet
                  rw [HLL.out]
                  exact ⟨rfl, rfl, HG⟩
              case rest =>
                clear HG HLE HP
                obtain ⟨rfl, rfl, HG⟩ := hcut
                obtain ⟨g0, g1, g2, g3⟩ := cells4 HG.out.1
                have HOWN : Hid (∀ o, (wc.alloc o).ownsRow (w.heap.size + 2) 52 4 u7 (outs keep torn (D.rs.take i)).length ((outs keep torn (D.rs.take i)).flatMap RF.cs)) := fun o => (own_below HB.out.2 HG.out.2).alloc o
                have hol : (outs keep torn (D.rs.take i)).length ≤ 100000 := Nat.le_trans (outs_len _ _ _) (by rw [List.length_take]; omega)
                have hsz2 : w.heap.size + 2 ≤ wc.heap.size := by
                  have h1 := HB.out.1.size
                  have h2 := HG.out.2.size
                  simp at h1
                  omega
                cases hL2 : L.2 with
                | true =>
                  go_wp2_with (at_builtin; refine wpList_append_own _ rfl _ _ 24 rfl (w.heap.size + 2) 52 tinfo _ 4 64 Try.underlying24 HTI.out.1 HTI.out.2.1 HTI.out.2.2.1 HTI.out.2.2.2 rfl (by decide) _ _ _ rfl (HOWN.out _) ⟨wc.heap.size, 0, none⟩ 1 1 [_, _, _, _] rfl rfl (news4 _ _ _ _ _ _) ?_ (by simp only [maxLen]; omega) (by omega) (by simp; omega) ?_; (simp [Value.oneCell']); rintro v' w' ho hg -)
                  have hbb : Below (w.heap.size + 2) _ wc := HB.out.1.trans (HG.out.2.mono (by have := HB.out.1.size; simp at this; omega))
                  refine ⟨⟨i + 1, by omega, by go_num, ?_, ?_⟩, by simp [intOf]; omega⟩
                  · exact (hbb.alloc hsz2 _).grown hg (by simp; omega) (fun k hk => (HB.out.2.lt k hk).1)
                  · rw [HSN.out, HTH.out.1, hL2, if_pos rfl, List.length_append, List.flatMap_append, List.flatMap_cons, HTH.out.2]
                    unfold txt
                    simpa using ho
                | false =>
                  have hbb : Below (w.heap.size + 2) _ wc := HB.out.1.trans (HG.out.2.mono (by have := HB.out.1.size; simp at this; omega))
                  go_wp2
                  refine ⟨⟨i + 1, by omega, by go_num, hbb, ?_⟩, by simp [intOf]; omega⟩
                  rw [HSN.out, HTH.out.1, hL2, if_neg (by simp), List.append_nil]
                  exact own_below HB.out.2 HG.out.2
    · have : i = n := by omega
      subst this
      obtain ⟨va, vc, hv⟩ := RegionOwn.own_form HB.out.2
      subst hv
      obtain ⟨d0, d1, d2, d3, d4⟩ := cells5 HX.out.2.1
      obtain ⟨f0, f1, f2, f3, f4⟩ := frozen5 HX.out.2.1
      obtain ⟨e0, e1, e2, e3, e4⟩ := frozen5 HX.out.1
      clear HF
      have HALL : Hid (D.rs.take i = D.rs) := List.take_of_length_le (by rw [HN.out]; exact Nat.le_refl _)
      have hsz2 : w.heap.size + 1 < w.heap.size + 2 := by omega
      go_wp2
      have y4 : ((wr.setCell ⟨w.heap.size, 0, none⟩ (.slice va (outs keep torn (D.rs.take i)).length vc)).setCell ⟨w.heap.size, 4, none⟩ (.bool true)).heap[w.heap.size + 1]? = some (.cells #[Value.slice none 0 0, Value.int IntKind.i64 0, Value.slice none 0 0, Value.int IntKind.i64 0, Value.bool false] 27 (0, 0)) := by
        rw [(RegionOwn.grown_setCell _ w.heap.size 4 _).block _ (by simpa using block_lt HX.out.2.1) (by simp), (RegionOwn.grown_setCell wr w.heap.size 0 _).block _ (block_lt HX.out.2.1) (by simp)]
        exact HX.out.2.1
      have yb : Below w.heap.size w ((wr.setCell ⟨w.heap.size, 0, none⟩ (.slice va (outs keep torn (D.rs.take i)).length vc)).setCell ⟨w.heap.size, 4, none⟩ (.bool true)) := (HX.out.2.2.setCell (p := ⟨w.heap.size, 0, none⟩) (Nat.le_refl _) _).setCell (p := ⟨w.heap.size, 4, none⟩) (Nat.le_refl _) _
      refine bodyPost_ret (results_cell_row Try.results32 _ _ _ 27 _ (0, 0) _ rfl (set5 y4 _ _ _ _ _) Try.underlying27 rfl infoDisk) rfl ⟨.slice va (outs keep torn (D.rs.take i)).length vc, ?_, ?_, below5 yb (Nat.le_add_right _ 1) _ _ _ _ _⟩
      · simp only [RD.crash, hlv]
      · refine h.crash (below5 yb (Nat.le_add_right _ 1) _ _ _ _ _) ?_
        have ho := HB.out.2
        have z0 : w.heap.size < w.heap.size + 2 := by omega
        rw [HALL.out] at ho ⊢
        exact Sees.of_own (own_set (own_set (own_set (own_set (own_set (own_set (own_set ho z0 _ _) z0 _ _) hsz2 _ _) hsz2 _ _) hsz2 _ _) hsz2 _ _) hsz2 _ _)
set_option maxRecDepth 100000 in
set_option maxHeartbeats 1000000 in
theorem rcrash_any (K : Nat) (D : RD) (keep torn : Int) (w : World) (h : RefAt K w D) :
    Calls Try.prog 32 #[D.v, .int .i64 keep, .int .i64 torn] w fun e w' => ∃ D' : RD, e = .returned D'.v ∧ D'.a = D.a.crash keep torn ∧ RefAt K w' D' ∧ Below w.heap.size w w' := by
  cases hd : D.a.down with
  | false =>
    refine (rcrash_live K D keep torn w h hd).mono ?_
    rintro e w' ⟨fv, he, hr, hb⟩
    exact ⟨_, he, by unfold A.crash; rw [if_neg (by simp [hd])]; rfl, hr, hb⟩
  | true =>
    have HA : Hid (∀ w', Below w.heap.size w w' → ∃ D' : RD, Ending.returned D.v = .returned D'.v ∧ D'.a = D.a.crash keep torn ∧ RefAt K w' D' ∧ Below w.heap.size w w') := fun w' hb => ⟨D, rfl, by unfold A.crash; rw [if_pos hd], h.below hb, hb⟩
    obtain ⟨la, lc, hlv⟩ := Sees.form h.falls
    obtain ⟨fa, fc, hfv⟩ := Sees.form h.files
    unfold RD.v RD.cs at *
    rw [hfv, hlv, hd] at HA ⊢
    clear h hfv hlv
    generalize hX : (fun (e : Ending) (w' : World) => ∃ D' : RD, e = .returned (.agg #[D'.fv, .int .i64 D'.a.room, D'.lv, .int .i64 D'.a.changes, .bool D'.a.down]) ∧ D'.a = D.a.crash keep torn ∧ RefAt K w' D' ∧ Below w.heap.size w w') = X
    replace HA : Hid (∀ w', Below w.heap.size w w' → X (.returned (.agg #[.slice fa D.rs.length fc, .int .i64 D.a.room, .slice la (flen D.a.fall) lc, .int .i64 D.a.changes, .bool true])) w') := by rw [← hX]; exact HA
    clear hX
    go_enter Try.func32, Try.ntmps32
    go_wp2
    exact bodyPost_ret (results_cell_row Try.results32 _ _ _ 27 _ (0, 0) _ rfl (heap_alloc2_new _ _ _) Try.underlying27 rfl infoDisk) rfl (HA.out _ (((Below.refl _ _).alloc (Nat.le_refl _) _).alloc (by simp) _))
end Go.Proofs.Ytnjkahoaogeecaa
