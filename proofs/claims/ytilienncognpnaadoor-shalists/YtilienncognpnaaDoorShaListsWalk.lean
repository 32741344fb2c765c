/- The walk of the statement on lists of parts. -/
import Derived.Test.YtilienncognpnaaDoorRows
import Derived.Test.YtilienncognpnaaDoorShaTagged
import Derived.Test.YtilienncognpnaaDoorShaNumberOwn
import Derived.Test.YtilienncognpnaaDoorStrs
import Derived.Test.YtilienncognpnaaDoorShaMath4
import Derived.WalkKit
import Derived.WalkSpells
import Derived.WalkLawsBesides
import Derived.Deep.QuietTactic
import Derived.Deep.RegionWith
import Derived.Test.YtilienncognpnaaDoorTail
import Derived.BigQuiet
import Derived.Deep.WholeRow
import Derived.Deep.AppendLies
import Derived.Deep.DeepCutAuto
import Derived.Deep.CutBlock
import Derived.Lib.QuietBelow
import Derived.Lib.AppendStr
namespace Go.Proofs.YtilienncognpnaaDoor
open Go.RowKit
open Go.Sort
theorem info9 : (Tryd.prog.info? 9).map (fun i => (i.zero, i.size, i.bytes)) = some (some (.string ByteArray.empty), 1, 16) := by kernel_rfl
theorem under31 : Tryd.prog.underlying 31 = some (.slice 9) := by kernel_rfl
set_option maxRecDepth 100000 in
set_option maxHeartbeats 1000000 in
theorem collide_big (x y : ByteArray) (w : World) (hx : x.size ≤ 100000) (hy : y.size ≤ 100000) (hst : Steps w) (hne : (x.toList == y.toList) = false) :
    Calls Tryd.prog 18 #[.agg #[.string x, .string y]] w fun e w' => e = .returned (.bool (Sha.sum x.data.toList == Sha.sum y.data.toList)) ∧ Below w.heap.size w w' := by
  have Hst : Hid (Steps w) := hst
  clear hst
  go_enter Tryd.func18, Tryd.ntmps18
  go_wp2_with fail
  obtain ⟨W, hW⟩ : ∃ W, W = w.alloc (Obj.cells #[Value.string x, Value.string y] 36) := ⟨_, rfl⟩
  rw [← hW]
  have c0 := cell_regrown (show W.cell? ⟨w.heap.size, 0, none⟩ = some (.string x) by rw [hW]; simp)
  have c1 := cell_regrown (show W.cell? ⟨w.heap.size, 1, none⟩ = some (.string y) by rw [hW]; simp)
  have HS : Hid (Steps W) := by rw [hW]; exact Hst.out.alloc _
  have HW : Hid (Below w.heap.size w W) := by rw [hW]; exact (Below.refl _ _).alloc (Nat.le_refl _) _
  clear hW Hst
  have H1 : Hid (∀ d os, Calls Tryd.prog 13 #[.string x] (grow (redrawn W d) os) fun e w'' => e = .returned (.string ⟨(Sha.sum x.data.toList).toArray⟩) ∧ ∃ p : Regrown, w'' = grow (redrawn W p.d) p.os) := fun d os => Calls.regrown_of (sum_any x _ (by omega) (HS.out.below (below_regrown W d os) HS.out.pos))
  have H2 : Hid (∀ d os, Calls Tryd.prog 13 #[.string y] (grow (redrawn W d) os) fun e w'' => e = .returned (.string ⟨(Sha.sum y.data.toList).toArray⟩) ∧ ∃ p : Regrown, w'' = grow (redrawn W p.d) p.os) := fun d os => Calls.regrown_of (sum_any y _ (by omega) (HS.out.below (below_regrown W d os) HS.out.pos))
  refine wp_region_quiet_below (by kernel_rfl) (by kernel_rfl) ?_
  repeat (first | go_big_quiet_step (first | (go_at_call_of 13 (Value.string x); exact H1.out _ _) | (go_at_call_of 13 (Value.string y); exact H2.out _ _)) | quiet_step (first | (go_at_call_of 13 (Value.string x); exact H1.out _ _) | (go_at_call_of 13 (Value.string y); exact H2.out _ _)))
  refine wpQuiet_nil ?_
  rintro _ ⟨⟨dq, osq⟩, rfl⟩
  go_wp2
  go_ret
  exact ⟨rfl, HW.out.trans ((below_regrown W dq osq).mono HW.out.size)⟩
/-- What the first eight parts are, each cut. -/
def firsts (xa : List ByteArray) : List ByteArray := (xa.take 8).map Sha.few
theorem firsts_length (xa : List ByteArray) : (firsts xa).length = min 8 xa.length := by simp [firsts]
theorem firsts_at {xa : List ByteArray} {i : Nat} {s : ByteArray} (h8 : i < 8) (h : xa[i]? = some s) : (firsts xa)[i]? = some (Sha.few s) := by
  rw [firsts, List.getElem?_map, List.getElem?_take_of_lt h8, h]; rfl
theorem firsts_size {xa : List ByteArray} : ∀ s ∈ firsts xa, s.size ≤ 700 := by
  intro s hs
  obtain ⟨t, _, rfl⟩ := List.mem_map.1 hs
  exact Sha.few_size t
theorem reads_same {w w' : World} {g n cap : Nat} {X : List ByteArray} (h : StrRow.Reads w (.slice (some ⟨g, 0, none⟩) n cap) X) (hb : w'.heap[g]? = w.heap[g]?) (hg : g < w'.heap.size) : StrRow.Reads w' (.slice (some ⟨g, 0, none⟩) n cap) X := by
  rcases h with h | ⟨b, off, c, h1, h2, h3, h4⟩
  · exact .inl h
  · simp only [Value.slice.injEq, Option.some.injEq, Addr.mk.injEq] at h1
    obtain ⟨⟨rfl, rfl, -⟩, rfl, rfl⟩ := h1
    exact .inr ⟨g, 0, cap, rfl, hg, h3, fun j s hj => by rw [World.cell?_of_block (w := w) hb]; exact h4 j s hj⟩
theorem toList_ne {x y : ByteArray} (h : x ≠ y) : (x.toList == y.toList) = false := by
  rw [beq_eq_false_iff_ne]
  intro e
  apply h
  rw [ByteArray.toList_eq, ByteArray.toList_eq] at e
  exact ByteArray.ext (Array.toList_inj.1 e)
theorem after_call {w V V' : World} {vx vy : Value} {X Y : List ByteArray} (h : StrRow.Reads V vx X ∧ StrRow.Reads V vy Y ∧ Below w.heap.size w V ∧ Steps V) (hb : Below V.heap.size V V') :
    StrRow.Reads V' vx X ∧ StrRow.Reads V' vy Y ∧ Below w.heap.size w V' ∧ Steps V' :=
  ⟨h.1.below hb (Nat.le_refl _), h.2.1.below hb (Nat.le_refl _), h.2.2.1.trans (hb.mono h.2.2.1.size), h.2.2.2.below hb h.2.2.2.pos⟩
theorem lists_map_inj {X Y : List ByteArray} (h : X.map (fun s => s.data.toList) = Y.map fun s => s.data.toList) : X = Y := by
  induction X generalizing Y with
  | nil => cases Y with
    | nil => rfl
    | cons y Y => simp at h
  | cons x X ih => cases Y with
    | nil => simp at h
    | cons y Y =>
      simp only [List.map_cons, List.cons.injEq] at h
      rw [ByteArray.ext (Array.toList_inj.1 h.1), ih h.2]
theorem parts_iff (p q : UInt8) (X Y : List ByteArray) (hX : X.length ≤ 8) (hY : Y.length ≤ 8) (hx : ∀ s ∈ X, s.size ≤ 700) (hy : ∀ s ∈ Y, s.size ≤ 700) :
    (Sha.parts p (X.map fun s => s.data.toList) = Sha.parts q (Y.map fun s => s.data.toList)) ↔ (p = q ∧ X = Y) := by
  constructor
  · intro h
    have hs : ∀ (Z : List ByteArray), (∀ s ∈ Z, s.size ≤ 700) → ∀ l ∈ Z.map (fun s => s.data.toList), l.length < 4294967296 := by
      intro Z hz l hl
      obtain ⟨s, hs, rfl⟩ := List.mem_map.1 hl
      have h1 := hz s hs
      have h2 : s.data.toList.length = s.size := by simp
      omega
    obtain ⟨h1, h2⟩ := Sha.parts_inj (by rw [List.length_map]; omega) (by rw [List.length_map]; omega) (hs X hx) (hs Y hy) h
    exact ⟨h1, lists_map_inj h2⟩
  · rintro ⟨rfl, rfl⟩; rfl
/-- One string more in a row of the call's own: what stays. -/
theorem own_step {W0 wr w1 : World} {N g gx cap cx i : Nat} {X : List ByteArray} {f : ByteArray} {o : Obj}
    (hown : w1.ownsRow (N + 1) 9 1 (.slice (some ⟨g, 0, none⟩) (i + 1) cap) (i + 1) ((X.take i).map Value.string ++ [.string f])) (hgrow : (wr.alloc o).grownBy w1 (Value.ownBlock (.slice (some ⟨gx, 0, none⟩) i cx)))
    (hat : Value.ownBlock (.slice (some ⟨gx, 0, none⟩) i cx) = some g ∨ g = wr.heap.size + 1) (hX : X[i]? = some f)
    (hbel : Below (N + 1) W0 wr) (hsz : N + 3 ≤ wr.heap.size) (hgx : N + 1 ≤ gx) :
    w1.ownsRow (N + 1) 9 1 (.slice (some ⟨g, 0, none⟩) (i + 1) cap) (i + 1) ((X.take (i + 1)).map Value.string) ∧ (g = gx ∨ wr.heap.size < g) ∧ Below (N + 1) W0 w1 ∧ N + 3 ≤ w1.heap.size ∧
      (∀ k, k < wr.heap.size → k ≠ gx → w1.heap[k]? = wr.heap[k]?) := by
  have hs := hgrow.size
  simp only [World.size_alloc] at hs
  refine ⟨?_, ?_, ?_, by omega, ?_⟩
  · rw [List.take_add_one, hX, List.map_append]; exact hown
  · rcases hat with h | h
    · exact .inl (by simpa [Value.ownBlock] using h.symm)
    · exact .inr (by omega)
  · exact (hbel.alloc (by omega) _).grown hgrow (by simp only [World.size_alloc]; omega) (fun k hk => by simp [Value.ownBlock] at hk; omega)
  · intro k hk hne
    rw [hgrow.block k (by simp only [World.size_alloc]; omega) (by simpa [Value.ownBlock] using hne), heap_alloc_old _ _ hk]
set_option maxRecDepth 100000 in
set_option maxHeartbeats 2000000 in
theorem lists_any (p q : UInt8) (va vb : Value) (xa xb : List ByteArray) (w : World) (ha : StrRow.Reads w va xa) (hb : StrRow.Reads w vb xb) (has : ∀ s ∈ xa, s.size ≤ maxLen) (hbs : ∀ s ∈ xb, s.size ≤ maxLen) (hal : xa.length ≤ maxLen) (hbl : xb.length ≤ maxLen) (hst : Steps w) :
    Calls Tryd.prog 5 #[.agg #[.int .u8 p.toNat, .int .u8 q.toNat], va, vb] w fun e w' => e = .returned (.bool true) ∧ Below w.heap.size w w' := by
  obtain ⟨i9, hi9, hz0, hz1, hz2⟩ := info_parts info9
  obtain ⟨aa, ca, rfl⟩ := ha.form
  obtain ⟨ab, cb, rfl⟩ := hb.form
  have HA : Hid (StrRow.Reads w (.slice aa xa.length ca) xa ∧ StrRow.Reads w (.slice ab xb.length cb) xb ∧ Steps w ∧ (∀ s ∈ xa, s.size ≤ maxLen) ∧ (∀ s ∈ xb, s.size ≤ maxLen)) := ⟨ha, hb, hst, has, hbs⟩
  clear ha hb hst has hbs
  unfold maxLen at hal hbl
  have hal2 : (xa.length : Int) ≤ 9223372036854775807 := by omega
  have hbl2 : (xb.length : Int) ≤ 9223372036854775807 := by omega
  clear hal hbl
  obtain ⟨X, hX⟩ : ∃ X, X = firsts xa := ⟨_, rfl⟩
  obtain ⟨Y, hY⟩ : ∃ Y, Y = firsts xb := ⟨_, rfl⟩
  have HX : Hid (X = firsts xa ∧ X.length = min 8 xa.length ∧ ∀ s ∈ X, s.size ≤ 700) := ⟨hX, by rw [hX, firsts_length], by rw [hX]; exact firsts_size⟩
  have HY : Hid (Y = firsts xb ∧ Y.length = min 8 xb.length ∧ ∀ s ∈ Y, s.size ≤ 700) := ⟨hY, by rw [hY, firsts_length], by rw [hY]; exact firsts_size⟩
  clear hX hY
  obtain ⟨N, hN⟩ : ∃ N, N = w.heap.size := ⟨_, rfl⟩
  obtain ⟨W0, hW0⟩ : ∃ W0, W0 = ((w.alloc (Obj.cells #[Value.int IntKind.u8 p.toNat, Value.int IntKind.u8 q.toNat] 30)).alloc (Obj.cells #[] 9)).alloc (Obj.cells #[] 9) := ⟨_, rfl⟩
  have H0 : Hid (Below w.heap.size w W0 ∧ W0.heap[N]? = some (Obj.cells #[Value.int IntKind.u8 p.toNat, Value.int IntKind.u8 q.toNat] 30) ∧ W0.heap[N + 1]? = some (Obj.cells #[] 9) ∧ W0.heap[N + 2]? = some (Obj.cells #[] 9) ∧ W0.heap.size = N + 3 ∧ N = w.heap.size) := by
    rw [hW0, hN]
    refine ⟨(((Below.refl _ _).alloc (Nat.le_refl _) _).alloc (by simp) _).alloc (by simp; omega) _, ?_, ?_, ?_, by simp, rfl⟩
    · rw [heap_alloc_old _ _ (by simp; omega)]; exact heap_alloc2_old _ _ _
    · rw [heap_alloc_old _ _ (by simp)]; exact heap_alloc2_new _ _ _
    · have := heap_alloc2_new (w.alloc (Obj.cells #[Value.int IntKind.u8 p.toNat, Value.int IntKind.u8 q.toNat] 30)) (Obj.cells #[] 9) (Obj.cells #[] 9)
      simpa using this
  go_enter Tryd.func5, Tryd.ntmps5
  go_upto_block 0 with fail
  rw [← hW0, ← hN]
  clear hW0 hN
  go_cut [7, 9] (fun vx _ wr => ∃ gx cx, vx = .slice (some ⟨gx, 0, none⟩) X.length cx ∧ Hid (wr.ownsRow (N + 1) 9 1 vx X.length (X.map Value.string) ∧ N + 1 ≤ gx ∧ gx ≠ N + 2 ∧ gx < wr.heap.size ∧ wr.heap[N + 2]? = some (Obj.cells #[] 9) ∧ Below (N + 1) W0 wr ∧ N + 3 ≤ wr.heap.size))
  case first =>
    go_wp2_with fail
    go_loopw [7, 9] (fun vx vi wr => ∃ i gx cx : Nat, i ≤ X.length ∧ vi = .int .i64 i ∧ vx = .slice (some ⟨gx, 0, none⟩) i cx ∧ Hid (wr.ownsRow (N + 1) 9 1 (.slice (some ⟨gx, 0, none⟩) i cx) i ((X.take i).map Value.string) ∧ N + 1 ≤ gx ∧ gx ≠ N + 2 ∧ gx < wr.heap.size ∧ wr.heap[N + 2]? = some (Obj.cells #[] 9) ∧ Below (N + 1) W0 wr ∧ N + 3 ≤ wr.heap.size)) (fun _ vi _ => 8 - (intOf vi).toNat)
    case atStart =>
      obtain ⟨h1, h2, h3, h4, h5, h6⟩ := H0.out
      refine ⟨0, N + 1, 0, Nat.zero_le _, rfl, rfl, ⟨by simp, .inr ⟨N + 1, 0, #[], rfl, Nat.le_refl _, h3, Nat.le_refl _, by unfold maxLen; omega, rfl, rfl⟩⟩, Nat.le_refl _, by omega, by omega, h4, Below.refl _ _, by omega⟩
    case round =>
      obtain ⟨i, gx, cx, hi, rfl, rfl, HH⟩ := hrel
      by_cases hlt : i < X.length
      · have h8 : (i : Int) < 8 := by have := HX.out.2.1; omega
        have hla : (i : Int) < xa.length := by have := HX.out.2.1; omega
        obtain ⟨b, off, cap, hv, hcap, hbN⟩ := HA.out.1.at (by intro h; rw [h] at hla; simp at hla; omega)
        simp only [Value.slice.injEq, true_and] at hv
        obtain ⟨rfl, rfl⟩ := hv
        obtain ⟨s, hs⟩ : ∃ s, xa[i]? = some s := ⟨_, List.getElem?_eq_getElem (by omega)⟩
        have hcell : wr.cell? ⟨b, off + i, none⟩ = some (.string s) := by
          have e1 := H0.out.2.2.2.2.2
          rw [HH.out.2.2.2.2.2.1.cell (p := ⟨b, off + i, none⟩) (by show b < N + 1; omega), H0.out.1.cell (p := ⟨b, off + i, none⟩) hbN]
          exact HA.out.1.cell hs
        have HS : Hid (s.size ≤ maxLen ∧ X[i]? = some (Sha.few s)) := ⟨HA.out.2.2.2.1 s (List.mem_of_getElem? hs), by have := HX.out.1; rw [this]; exact firsts_at (by omega) hs⟩
        clear hs
        go_wp2_with fail
        refine (few_any s _ HS.out.1).mono ?_
        rintro e w2 ⟨rfl, rfl⟩
        generalize Sha.few s = f at *
        go_wp2_with (at_builtin; refine wpList_append_lies _ rfl _ _ 31 rfl (N + 1) 9 i9 (.string ByteArray.empty) 1 16 under31 hi9 hz0 hz1 hz2 rfl (by decide) _ _ _ rfl (HH.out.1.alloc _) ⟨w2.heap.size, 0, none⟩ 1 1 [.string f] rfl rfl (ShaW.news_one _ _ _) ?_ (by decide) ?_ ?_ ?_ (w2.heap.size + 1) (by simp) ?_)
        · intro u hu; simp at hu; subst hu; rfl
        · unfold maxLen; omega
        · omega
        · have := HH.out.2.2.2.2.2.2; simp; omega
        · intro g cap1 w1 hown hgrow hat hlt1
          have HR : Hid (w1.ownsRow (N + 1) 9 1 (.slice (some ⟨g, 0, none⟩) (i + 1) cap1) (i + 1) ((X.take (i + 1)).map Value.string) ∧ N + 1 ≤ g ∧ g ≠ N + 2 ∧ g < w1.heap.size ∧ w1.heap[N + 2]? = some (Obj.cells #[] 9) ∧ Below (N + 1) W0 w1 ∧ N + 3 ≤ w1.heap.size) := by
            obtain ⟨h1, h2, h3, h4, h5, h6, h7⟩ := HH.out
            rw [← List.map_take] at hown
            obtain ⟨k1, k2, k3, k4, k5⟩ := own_step hown hgrow hat HS.out.2 h6 h7 h2
            exact ⟨k1, by omega, by omega, hlt1, by rw [k5 (N + 2) (by omega) (by omega)]; exact h5, k3, k4⟩
          clear hown hgrow hat hlt1
          go_wp2
          go_roundw
          case rel => exact ⟨i + 1, g, cap1, by omega, by go_num, rfl, HR.out⟩
          case measure => simp [intOf]; omega
      · have hix : i = X.length := by omega
        have HE : Hid (∃ gx' cx', Value.slice (some ⟨gx, 0, none⟩) i cx = .slice (some ⟨gx', 0, none⟩) X.length cx' ∧ Hid (wr.ownsRow (N + 1) 9 1 (Value.slice (some ⟨gx, 0, none⟩) i cx) X.length (X.map Value.string) ∧ N + 1 ≤ gx' ∧ gx' ≠ N + 2 ∧ gx' < wr.heap.size ∧ wr.heap[N + 2]? = some (Obj.cells #[] 9) ∧ Below (N + 1) W0 wr ∧ N + 3 ≤ wr.heap.size)) := by
          have h := HH.out
          rw [hix, List.take_of_length_le (Nat.le_refl _)] at h
          exact ⟨gx, cx, by rw [hix], by rw [hix]; exact h⟩
        have hm := HX.out.2.1
        by_cases h1 : i < xa.length
        · have hi8 : ¬ ((i : Int) < 8) := by omega
          have hla : (i : Int) < xa.length := by omega
          clear hix hm
          go_wp2
          go_meet
          case rel => exact HE.out
        · have hla : ¬ ((i : Int) < xa.length) := by omega
          clear hix hm
          go_wp2
          go_meet
          case rel => exact HE.out
  case rest =>
    obtain ⟨gx, cx, rfl, HC⟩ := hcut
    have HC2 : Hid (StrRow.Reads wc (.slice (some ⟨gx, 0, none⟩) X.length cx) X ∧ N + 1 ≤ gx ∧ gx ≠ N + 2 ∧ gx < wc.heap.size ∧ wc.heap[N + 2]? = some (Obj.cells #[] 9) ∧ Below (N + 1) W0 wc ∧ N + 3 ≤ wc.heap.size) := by
      obtain ⟨h1, h2, h3, h4, h5, h6, h7⟩ := HC.out
      exact ⟨StrRow.Reads.of_own h1, h2, h3, h4, h5, h6, h7⟩
    clear HC
    obtain ⟨wx, hwx⟩ : ∃ wx, wx = wc := ⟨_, rfl⟩
    rw [← hwx] at HC2
    have HWX : Hid (wx = wc) := hwx
    clear hwx
    go_upto_block 2 with fail
    go_cut [8, 10] (fun vy _ wr => ∃ gy cy, vy = .slice (some ⟨gy, 0, none⟩) Y.length cy ∧ Hid (StrRow.Reads wr (.slice (some ⟨gx, 0, none⟩) X.length cx) X ∧ StrRow.Reads wr (.slice (some ⟨gy, 0, none⟩) Y.length cy) Y ∧ Below (N + 1) W0 wr))
    case first =>
      go_wp2_with fail
      go_loopw [8, 10] (fun vy vi wr => ∃ i gy cy : Nat, i ≤ Y.length ∧ vi = .int .i64 i ∧ vy = .slice (some ⟨gy, 0, none⟩) i cy ∧ Hid (wr.ownsRow (N + 1) 9 1 (.slice (some ⟨gy, 0, none⟩) i cy) i ((Y.take i).map Value.string) ∧ N + 1 ≤ gy ∧ (gy = N + 2 ∨ wx.heap.size ≤ gy) ∧ gy < wr.heap.size ∧ wr.heap[gx]? = wx.heap[gx]? ∧ Below (N + 1) W0 wr ∧ N + 3 ≤ wr.heap.size ∧ wx.heap.size ≤ wr.heap.size)) (fun _ vi _ => 8 - (intOf vi).toNat)
      case atStart =>
        obtain ⟨h1, h2, h3, h4, h5, h6, h7⟩ := HC2.out
        have e := HWX.out
        rw [← e]
        refine ⟨0, N + 2, 0, Nat.zero_le _, rfl, rfl, ⟨by simp, .inr ⟨N + 2, 0, #[], rfl, by omega, h5, Nat.le_refl _, by unfold maxLen; omega, rfl, rfl⟩⟩, by omega, .inl rfl, by omega, rfl, h6, h7, Nat.le_refl _⟩
      case round =>
        obtain ⟨i, gy, cy, hi, rfl, rfl, HH⟩ := hrel
        by_cases hlt : i < Y.length
        · have h8 : (i : Int) < 8 := by have := HY.out.2.1; omega
          have hla : (i : Int) < xb.length := by have := HY.out.2.1; omega
          obtain ⟨b, off, cap, hv, hcap, hbN⟩ := HA.out.2.1.at (by intro h; rw [h] at hla; simp at hla; omega)
          simp only [Value.slice.injEq, true_and] at hv
          obtain ⟨rfl, rfl⟩ := hv
          obtain ⟨s, hs⟩ : ∃ s, xb[i]? = some s := ⟨_, List.getElem?_eq_getElem (by omega)⟩
          have hcell : wr.cell? ⟨b, off + i, none⟩ = some (.string s) := by
            have e1 := H0.out.2.2.2.2.2
            rw [HH.out.2.2.2.2.2.1.cell (p := ⟨b, off + i, none⟩) (by show b < N + 1; omega), H0.out.1.cell (p := ⟨b, off + i, none⟩) hbN]
            exact HA.out.2.1.cell hs
          have HS : Hid (s.size ≤ maxLen ∧ Y[i]? = some (Sha.few s)) := ⟨HA.out.2.2.2.2 s (List.mem_of_getElem? hs), by have := HY.out.1; rw [this]; exact firsts_at (by omega) hs⟩
          clear hs
          go_wp2_with fail
          refine (few_any s _ HS.out.1).mono ?_
          rintro e w2 ⟨rfl, rfl⟩
          generalize Sha.few s = f at *
          go_wp2_with (at_builtin; refine wpList_append_lies _ rfl _ _ 31 rfl (N + 1) 9 i9 (.string ByteArray.empty) 1 16 under31 hi9 hz0 hz1 hz2 rfl (by decide) _ _ _ rfl (HH.out.1.alloc _) ⟨w2.heap.size, 0, none⟩ 1 1 [.string f] rfl rfl (ShaW.news_one _ _ _) ?_ (by decide) ?_ ?_ ?_ (w2.heap.size + 1) (by simp) ?_)
          · intro u hu; simp at hu; subst hu; rfl
          · unfold maxLen; omega
          · omega
          · have := HH.out.2.2.2.2.2.2.1; simp; omega
          · intro g cap1 w1 hown hgrow hat hlt1
            have HR : Hid (w1.ownsRow (N + 1) 9 1 (.slice (some ⟨g, 0, none⟩) (i + 1) cap1) (i + 1) ((Y.take (i + 1)).map Value.string) ∧ N + 1 ≤ g ∧ (g = N + 2 ∨ wx.heap.size ≤ g) ∧ g < w1.heap.size ∧ w1.heap[gx]? = wx.heap[gx]? ∧ Below (N + 1) W0 w1 ∧ N + 3 ≤ w1.heap.size ∧ wx.heap.size ≤ w1.heap.size) := by
              obtain ⟨h1, h2, h3, h4, h5, h6, h7, h8'⟩ := HH.out
              obtain ⟨c1, c2, c3, c4, c5, c6, c7⟩ := HC2.out
              have hsz := hgrow.size
              simp only [World.size_alloc] at hsz
              rw [← List.map_take] at hown
              obtain ⟨k1, k2, k3, k4, k5⟩ := own_step hown hgrow hat HS.out.2 h6 h7 h2
              exact ⟨k1, by omega, by omega, hlt1, by rw [k5 gx (by omega) (by omega)]; exact h5, k3, k4, by omega⟩
            clear hown hgrow hat hlt1
            go_wp2
            go_roundw
            case rel => exact ⟨i + 1, g, cap1, by omega, by go_num, rfl, HR.out⟩
            case measure => simp [intOf]; omega
        · have hix : i = Y.length := by omega
          have HE : Hid (∃ gy' cy', Value.slice (some ⟨gy, 0, none⟩) i cy = .slice (some ⟨gy', 0, none⟩) Y.length cy' ∧ Hid (StrRow.Reads wr (.slice (some ⟨gx, 0, none⟩) X.length cx) X ∧ StrRow.Reads wr (.slice (some ⟨gy', 0, none⟩) Y.length cy') Y ∧ Below (N + 1) W0 wr)) := by
            obtain ⟨h1, h2, h3, h4, h5, h6, h7, h8'⟩ := HH.out
            obtain ⟨c1, c2, c3, c4, c5, c6, c7⟩ := HC2.out
            rw [hix, List.take_of_length_le (Nat.le_refl _)] at h1
            exact ⟨gy, cy, by rw [hix], reads_same c1 h5 (by omega), StrRow.Reads.of_own h1, h6⟩
          have hm := HY.out.2.1
          by_cases h1 : i < xb.length
          · have hi8 : ¬ ((i : Int) < 8) := by omega
            have hla : (i : Int) < xb.length := by omega
            clear hix hm
            go_wp2
            go_meet
            case rel => exact HE.out
          · have hla : ¬ ((i : Int) < xb.length) := by omega
            clear hix hm
            go_wp2
            go_meet
            case rel => exact HE.out
    case rest =>
      obtain ⟨gy, cy, rfl, HD⟩ := hcut
      have cp : wc.cell? ⟨N, 0, none⟩ = some (.int .u8 p.toNat) := by
        rw [HD.out.2.2.cell (p := ⟨N, 0, none⟩) (by show N < N + 1; omega)]; exact ShaW.cell H0.out.2.1 rfl
      have cq : wc.cell? ⟨N, 1, none⟩ = some (.int .u8 q.toNat) := by
        rw [HD.out.2.2.cell (p := ⟨N, 1, none⟩) (by show N < N + 1; omega)]; exact ShaW.cell H0.out.2.1 rfl
      have HF : Hid (StrRow.Reads wc (.slice (some ⟨gx, 0, none⟩) X.length cx) X ∧ StrRow.Reads wc (.slice (some ⟨gy, 0, none⟩) Y.length cy) Y ∧ Below w.heap.size w wc ∧ Steps wc) := by
        obtain ⟨h1, h2, h3⟩ := HD.out
        have e := H0.out.2.2.2.2.2
        have hbel : Below w.heap.size w wc := H0.out.1.trans (h3.mono (by omega))
        exact ⟨h1, h2, hbel, Steps.by hbel HA.out.2.2.1.pos HA.out.2.2.1⟩
      have HX8 : Hid (X.length ≤ 8 ∧ Y.length ≤ 8 ∧ (∀ s ∈ X, s.size ≤ 700) ∧ (∀ s ∈ Y, s.size ≤ 700)) := ⟨by have := HX.out.2.1; omega, by have := HY.out.2.1; omega, HX.out.2.2, HY.out.2.2⟩
      clear HD HC2 HWX HX HY HA H0 hal2 hbl2 hz0 hz1 hz2 hi9
      obtain ⟨S, hS⟩ : ∃ S, S = Sha.parts p (X.map fun s => s.data.toList) := ⟨_, rfl⟩
      obtain ⟨T, hT⟩ : ∃ T, T = Sha.parts q (Y.map fun s => s.data.toList) := ⟨_, rfl⟩
      have K15x : Hid (∀ V : World, StrRow.Reads V (.slice (some ⟨gx, 0, none⟩) X.length cx) X → Steps V → Calls Tryd.prog 15 #[.int .u8 p.toNat, .slice (some ⟨gx, 0, none⟩) X.length cx] V fun e w' => e = .returned (.string ⟨(Sha.sum S).toArray⟩) ∧ Below V.heap.size V w') := by
        intro V h1 h2; rw [hS]; exact tagged_any p _ X V h1 HX8.out.1 HX8.out.2.2.1 h2
      have K15y : Hid (∀ V : World, StrRow.Reads V (.slice (some ⟨gy, 0, none⟩) Y.length cy) Y → Steps V → Calls Tryd.prog 15 #[.int .u8 q.toNat, .slice (some ⟨gy, 0, none⟩) Y.length cy] V fun e w' => e = .returned (.string ⟨(Sha.sum T).toArray⟩) ∧ Below V.heap.size V w') := by
        intro V h1 h2; rw [hT]; exact tagged_any q _ Y V h1 HX8.out.2.1 HX8.out.2.2.2 h2
      have K17x : Hid (∀ V : World, StrRow.Reads V (.slice (some ⟨gx, 0, none⟩) X.length cx) X → Calls Tryd.prog 17 #[.int .u8 p.toNat, .slice (some ⟨gx, 0, none⟩) X.length cx] V fun e w' => e = .returned (.string ⟨(Sha.sum S).toArray⟩) ∧ Below V.heap.size V w') := by
        intro V h1; rw [hS]; exact rtagged_any p _ X V h1 HX8.out.1 HX8.out.2.2.1
      have K17y : Hid (∀ V : World, StrRow.Reads V (.slice (some ⟨gy, 0, none⟩) Y.length cy) Y → Calls Tryd.prog 17 #[.int .u8 q.toNat, .slice (some ⟨gy, 0, none⟩) Y.length cy] V fun e w' => e = .returned (.string ⟨(Sha.sum T).toArray⟩) ∧ Below V.heap.size V w') := by
        intro V h1; rw [hT]; exact rtagged_any q _ Y V h1 HX8.out.2.1 HX8.out.2.2.2
      have K16x : Hid (∀ V : World, StrRow.Reads V (.slice (some ⟨gx, 0, none⟩) X.length cx) X → Calls Tryd.prog 16 #[.int .u8 p.toNat, .slice (some ⟨gx, 0, none⟩) X.length cx] V fun e w' => e = .returned (.string ⟨S.toArray⟩) ∧ Below V.heap.size V w') := by
        intro V h1; rw [hS]; exact rparts_any p _ X V h1 HX8.out.1 HX8.out.2.2.1
      have K16y : Hid (∀ V : World, StrRow.Reads V (.slice (some ⟨gy, 0, none⟩) Y.length cy) Y → Calls Tryd.prog 16 #[.int .u8 q.toNat, .slice (some ⟨gy, 0, none⟩) Y.length cy] V fun e w' => e = .returned (.string ⟨T.toArray⟩) ∧ Below V.heap.size V w') := by
        intro V h1; rw [hT]; exact rparts_any q _ Y V h1 HX8.out.2.1 HX8.out.2.2.2
      have HST : Hid (((S = T) ↔ (p = q ∧ X = Y)) ∧ S.length ≤ 6000 ∧ T.length ≤ 6000) := by
        rw [hS, hT]
        exact ⟨parts_iff p q X Y HX8.out.1 HX8.out.2.1 HX8.out.2.2.1 HX8.out.2.2.2, ShaW.parts_le p X HX8.out.1 HX8.out.2.2.1, ShaW.parts_le q Y HX8.out.2.1 HX8.out.2.2.2⟩
      have hx8 : (X.length : Int) ≤ 8 := by have := HX8.out.1; omega
      clear hS hT HX8
      go_wp2_with fail
      go_quiet (fail)
      obtain ⟨V0, hV0⟩ : ∃ V0, V0 = wc.drewN nq := ⟨_, rfl⟩
      rw [← hV0]
      have HV0 : Hid (StrRow.Reads V0 (.slice (some ⟨gx, 0, none⟩) X.length cx) X ∧ StrRow.Reads V0 (.slice (some ⟨gy, 0, none⟩) Y.length cy) Y ∧ Below w.heap.size w V0 ∧ Steps V0) := by
        obtain ⟨h1, h2, h3, h4⟩ := HF.out
        rw [hV0]
        have hb : Below wc.heap.size wc (wc.drewN nq) := below_drewN (Below.refl _ _) nq
        exact ⟨h1.below hb (Nat.le_refl _), h2.below hb (Nat.le_refl _), below_drewN h3 nq, h4.below hb h4.pos⟩
      clear hV0 HF cp cq
      go_wp2_with fail
      refine (K15x.out V0 HV0.out.1 HV0.out.2.2.2).mono ?_
      rintro e V1 ⟨rfl, hb1⟩
      have HV1 : Hid (StrRow.Reads V1 (.slice (some ⟨gx, 0, none⟩) X.length cx) X ∧ StrRow.Reads V1 (.slice (some ⟨gy, 0, none⟩) Y.length cy) Y ∧ Below w.heap.size w V1 ∧ Steps V1) := after_call HV0.out hb1
      clear hb1 HV0
      go_wp2_with fail
      refine (K15y.out V1 HV1.out.2.1 HV1.out.2.2.2).mono ?_
      rintro e V2 ⟨rfl, hb2⟩
      have HV2 : Hid (StrRow.Reads V2 (.slice (some ⟨gx, 0, none⟩) X.length cx) X ∧ StrRow.Reads V2 (.slice (some ⟨gy, 0, none⟩) Y.length cy) Y ∧ Below w.heap.size w V2 ∧ Steps V2) := after_call HV1.out hb2
      clear hb2 HV1
      go_upto_region 12 with fail
      go_cut [15] (fun v wr => ∃ b : Bool, v = .bool b ∧ Hid (wr = V2 ∧ (b = true → p = q ∧ X.length = Y.length) ∧ (b = false → ¬ (p = q ∧ X = Y))))
      case first =>
        by_cases hpq : p = q
        · have e1 : (((p.toNat : Int)) == (q.toNat : Int)) = true := by rw [hpq]; simp
          by_cases hlen : X.length = Y.length
          · have e2 : (((X.length : Int)) == (Y.length : Int)) = true := by rw [hlen]; simp
            have HB : Hid (p = q ∧ X.length = Y.length) := ⟨hpq, hlen⟩
            clear hpq hlen
            go_wp2
            go_meet
            case rel => exact ⟨true, rfl, rfl, fun _ => HB.out, (fun h => by cases h)⟩
          · have e2 : (((X.length : Int)) == (Y.length : Int)) = false := by rw [beq_eq_false_iff_ne]; omega
            have HB : Hid (X.length ≠ Y.length) := hlen
            clear hpq hlen
            go_wp2
            go_meet
            case rel => exact ⟨false, rfl, rfl, (fun h => by cases h), fun _ h => HB.out (by rw [h.2])⟩
        · have e1 : (((p.toNat : Int)) == (q.toNat : Int)) = false := by
            rw [beq_eq_false_iff_ne]
            intro h
            exact hpq (UInt8.toNat_inj.1 (by omega))
          have HB : Hid (p ≠ q) := hpq
          clear hpq
          go_wp2
          go_meet
          case rel => exact ⟨false, rfl, rfl, (fun h => by cases h), fun _ h => HB.out h.1⟩
      case rest =>
        obtain ⟨b0, rfl, HB⟩ := hcut
        have HV2c : Hid (StrRow.Reads wc (.slice (some ⟨gx, 0, none⟩) X.length cx) X ∧ StrRow.Reads wc (.slice (some ⟨gy, 0, none⟩) Y.length cy) Y ∧ Below w.heap.size w wc ∧ Steps wc) := by
          have e := HB.out.1
          rw [e]; exact HV2.out
        have HB0 : Hid ((b0 = true → p = q ∧ X.length = Y.length) ∧ (b0 = false → ¬ (p = q ∧ X = Y))) := HB.out.2
        clear HB HV2
        obtain ⟨V3, hV3⟩ : ∃ V3, V3 = wc := ⟨_, rfl⟩
        rw [← hV3] at HV2c
        have HV3 : Hid (V3 = wc) := hV3
        clear hV3
        go_upto_block 4 with fail
        go_cut [15, 16] (fun v _ wr => ∃ b : Bool, v = .bool b ∧ Hid ((b = true ↔ (p = q ∧ X = Y)) ∧ (StrRow.Reads wr (.slice (some ⟨gx, 0, none⟩) X.length cx) X ∧ StrRow.Reads wr (.slice (some ⟨gy, 0, none⟩) Y.length cy) Y ∧ Below w.heap.size w wr ∧ Steps wr)))
        case first =>
          go_wp2_with fail
          go_loopw [15, 16] (fun v vi wr => ∃ (i : Nat) (b : Bool), i ≤ X.length ∧ vi = .int .i64 i ∧ v = .bool b ∧ Hid ((b = true → p = q ∧ X.length = Y.length ∧ X.take i = Y.take i) ∧ (b = false → ¬ (p = q ∧ X = Y)) ∧ (StrRow.Reads wr (.slice (some ⟨gx, 0, none⟩) X.length cx) X ∧ StrRow.Reads wr (.slice (some ⟨gy, 0, none⟩) Y.length cy) Y ∧ Below w.heap.size w wr ∧ Steps wr))) (fun _ vi _ => X.length - (intOf vi).toNat)
          case atStart =>
            have e := HV3.out
            rw [← e]
            exact ⟨0, b0, Nat.zero_le _, rfl, rfl, fun h => ⟨(HB0.out.1 h).1, (HB0.out.1 h).2, by simp⟩, HB0.out.2, HV2c.out⟩
          case round =>
            clear HB0 HV2c HV3
            obtain ⟨i, b, hi, rfl, rfl, HH⟩ := hrel
            cases b
            · have HE : Hid (∃ b' : Bool, Value.bool false = .bool b' ∧ Hid ((b' = true ↔ (p = q ∧ X = Y)) ∧ (StrRow.Reads wr (.slice (some ⟨gx, 0, none⟩) X.length cx) X ∧ StrRow.Reads wr (.slice (some ⟨gy, 0, none⟩) Y.length cy) Y ∧ Below w.heap.size w wr ∧ Steps wr))) := ⟨false, rfl, ⟨(fun h => by cases h), fun h => absurd h (HH.out.2.1 rfl)⟩, HH.out.2.2⟩
              by_cases h1 : i < X.length
              · have hla : (i : Int) < X.length := by omega
                go_wp2
                go_meet
                case rel => exact HE.out
              · have hla : ¬ ((i : Int) < X.length) := by omega
                go_wp2
                go_meet
                case rel => exact HE.out
            · by_cases h1 : i < X.length
              · have hla : (i : Int) < X.length := by omega
                have hlb : (i : Int) < Y.length := by have := (HH.out.1 rfl).2.1; omega
                obtain ⟨x, hx⟩ : ∃ x, X[i]? = some x := ⟨_, List.getElem?_eq_getElem h1⟩
                obtain ⟨y, hy⟩ : ∃ y, Y[i]? = some y := ⟨_, List.getElem?_eq_getElem (by omega)⟩
                have hcx : wr.cell? ⟨gx, i, none⟩ = some (.string x) := by have := HH.out.2.2.1.cell hx; rwa [Nat.zero_add] at this
                have hcy : wr.cell? ⟨gy, i, none⟩ = some (.string y) := by have := HH.out.2.2.2.1.cell hy; rwa [Nat.zero_add] at this
                have HXY : Hid (X[i]? = some x ∧ Y[i]? = some y) := ⟨hx, hy⟩
                clear hx hy
                by_cases hxy : x = y
                · subst hxy
                  go_wp2_with fail
                  go_quiet (fail)
                  go_wp2
                  go_roundw
                  case rel =>
                    obtain ⟨k1, k2, k3⟩ := HH.out
                    refine ⟨i + 1, true, by omega, by go_num, by simp, fun _ => ⟨(k1 (by simp)).1, (k1 (by simp)).2.1, ?_⟩, (fun h => by cases h), after_call k3 (below_drewN (Below.refl _ _) nq)⟩
                    rw [List.take_add_one, List.take_add_one, HXY.out.1, HXY.out.2, (k1 (by simp)).2.2]
                  case measure => simp [intOf]; omega
                · have hne := toList_ne hxy
                  have HN : Hid (x ≠ y) := hxy
                  clear hxy
                  go_wp2_with fail
                  go_quiet (fail)
                  go_wp2
                  go_roundw
                  case rel =>
                    obtain ⟨k1, k2, k3⟩ := HH.out
                    refine ⟨i + 1, false, by omega, by go_num, by simp, (fun h => by cases h), fun _ h => ?_, after_call k3 (below_drewN (Below.refl _ _) nq)⟩
                    have e1 := HXY.out.1
                    rw [h.2] at e1
                    exact HN.out (Option.some.inj (e1.symm.trans HXY.out.2))
                  case measure => simp [intOf]; omega
              · have hla : ¬ ((i : Int) < X.length) := by omega
                have HE : Hid (∃ b' : Bool, Value.bool true = .bool b' ∧ Hid ((b' = true ↔ (p = q ∧ X = Y)) ∧ (StrRow.Reads wr (.slice (some ⟨gx, 0, none⟩) X.length cx) X ∧ StrRow.Reads wr (.slice (some ⟨gy, 0, none⟩) Y.length cy) Y ∧ Below w.heap.size w wr ∧ Steps wr))) := by
                  obtain ⟨k1, k2, k3⟩ := HH.out
                  refine ⟨true, rfl, ⟨fun _ => ⟨(k1 (by simp)).1, ?_⟩, fun _ => rfl⟩, k3⟩
                  have e1 := (k1 (by simp)).2.2
                  rwa [List.take_of_length_le (by omega), List.take_of_length_le (by have := (k1 (by simp)).2.1; omega)] at e1
                go_wp2
                go_meet
                case rel => exact HE.out
        case rest =>
          clear HB0 HV2c HV3
          obtain ⟨b, rfl, HC⟩ := hcut
          clear K15x K15y
          have HV4 := HC.out.2
          have HQ4 : Hid (StrRow.Reads wc (.slice (some ⟨gx, 0, none⟩) X.length cx) X ∧ StrRow.Reads wc (.slice (some ⟨gy, 0, none⟩) Y.length cy) Y ∧ Below w.heap.size w wc ∧ Steps wc) := HC.out.2
          clear HV4
          go_wp2_with fail
          refine (K16x.out wc HQ4.out.1).mono ?_
          rintro e V5 ⟨rfl, hb5⟩
          have HV5 : Hid (StrRow.Reads V5 (.slice (some ⟨gx, 0, none⟩) X.length cx) X ∧ StrRow.Reads V5 (.slice (some ⟨gy, 0, none⟩) Y.length cy) Y ∧ Below w.heap.size w V5 ∧ Steps V5) := after_call HQ4.out hb5
          clear hb5 HQ4
          go_wp2_with fail
          refine (K16y.out V5 HV5.out.2.1).mono ?_
          rintro e V6 ⟨rfl, hb6⟩
          have HV6 : Hid (StrRow.Reads V6 (.slice (some ⟨gx, 0, none⟩) X.length cx) X ∧ StrRow.Reads V6 (.slice (some ⟨gy, 0, none⟩) Y.length cy) Y ∧ Below w.heap.size w V6 ∧ Steps V6) := after_call HV5.out hb6
          clear hb6 HV5 K16x K16y
          go_wp2_with fail
          refine (awake_any V6 HV6.out.2.2.2).mono ?_
          rintro e V7 ⟨rfl, hb7⟩
          have HV7 : Hid (StrRow.Reads V7 (.slice (some ⟨gx, 0, none⟩) X.length cx) X ∧ StrRow.Reads V7 (.slice (some ⟨gy, 0, none⟩) Y.length cy) Y ∧ Below w.heap.size w V7 ∧ Steps V7) := after_call HV6.out hb7
          clear hb7 HV6
          go_wp2_with fail
          refine (K17x.out V7 HV7.out.1).mono ?_
          rintro e V8 ⟨rfl, hb8⟩
          have HV8 : Hid (StrRow.Reads V8 (.slice (some ⟨gx, 0, none⟩) X.length cx) X ∧ StrRow.Reads V8 (.slice (some ⟨gy, 0, none⟩) Y.length cy) Y ∧ Below w.heap.size w V8 ∧ Steps V8) := after_call HV7.out hb8
          clear hb8 HV7
          go_wp2_with fail
          refine (K17y.out V8 HV8.out.2.1).mono ?_
          rintro e V9 ⟨rfl, hb9⟩
          have HV9 : Hid (StrRow.Reads V9 (.slice (some ⟨gx, 0, none⟩) X.length cx) X ∧ StrRow.Reads V9 (.slice (some ⟨gy, 0, none⟩) Y.length cy) Y ∧ Below w.heap.size w V9 ∧ Steps V9) := after_call HV8.out hb9
          clear hb9 HV8 K17x K17y
          cases b
          · have hne : (S == T) = false := by
              rw [beq_eq_false_iff_ne]
              intro h
              have := HC.out.1.2 (HST.out.1.1 h)
              cases this
            by_cases hs : Sha.sum S = Sha.sum T
            · have hse : (Sha.sum S == Sha.sum T) = true := by rw [hs]; simp
              have HSE : Hid ((Sha.sum S == Sha.sum T) = true ∧ (S == T) = false) := ⟨hse, hne⟩
              clear hs
              have KC : Hid (Calls Tryd.prog 18 #[.agg #[.string ⟨S.toArray⟩, .string ⟨T.toArray⟩]] V9 fun e w' => e = .returned (.bool true) ∧ Below V9.heap.size V9 w') := by
                refine (collide_big ⟨S.toArray⟩ ⟨T.toArray⟩ V9 (by show S.toArray.size ≤ _; rw [List.size_toArray]; have := HST.out.2.1; omega) (by show T.toArray.size ≤ _; rw [List.size_toArray]; have := HST.out.2.2; omega) HV9.out.2.2.2 (by rw [ByteArray.toList_eq, ByteArray.toList_eq]; exact HSE.out.2)).mono ?_
                rintro e w' ⟨rfl, hb⟩
                refine ⟨?_, hb⟩
                show Ending.returned (.bool (Sha.sum S == Sha.sum T)) = _
                rw [HSE.out.1]
              go_wp2_with fail
              refine Calls.mono KC.out ?_
              rintro e V10 ⟨rfl, hb10⟩
              go_wp2
              go_ret
              exact ⟨rfl, HV9.out.2.2.1.trans (hb10.mono HV9.out.2.2.1.size)⟩
            · have hse : (Sha.sum S == Sha.sum T) = false := by rw [beq_eq_false_iff_ne]; exact hs
              clear hs
              go_wp2
              go_ret
              exact ⟨rfl, HV9.out.2.2.1⟩
          · have hst : S = T := HST.out.1.2 (HC.out.1.1 rfl)
            subst hst
            go_wp2
            go_ret
            exact ⟨rfl, HV9.out.2.2.1⟩
end Go.Proofs.YtilienncognpnaaDoor
