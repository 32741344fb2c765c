/- The walk of WireFraming. -/
import Derived.Test.YtajbhfejjenloaaWireBack
import Derived.Test.YtajbhfejjenloaaWireRefUnframe
import Derived.Test.YtajbhfejjenloaaWireQuiet
import Derived.Test.YtajbhfejjenloaaStrs
import Derived.Deep.CutBlock
import Derived.Deep.DeepCutAuto
namespace Go.Wire
def firsts (xs : List ByteArray) : List ByteArray := (xs.take 6).map few
theorem firsts_length (xs : List ByteArray) : (firsts xs).length = min 6 xs.length := by simp [firsts]
theorem firsts_size {xs : List ByteArray} : ∀ s ∈ firsts xs, s.size ≤ 500 := by
  intro s hs
  obtain ⟨y, _, rfl⟩ := List.mem_map.1 hs
  exact few_size y
theorem firsts_at {xs : List ByteArray} {i : Nat} {s : ByteArray} (hi : i < 6) (h : xs[i]? = some s) : (firsts xs)[i]? = some (few s) := by
  simp [firsts, List.getElem?_take_of_lt hi, h]
end Go.Wire
namespace Go.Proofs.Ytajbhfejjenloaa
open Go.RowKit Go.Wire Go.Sort
set_option maxRecDepth 100000 in
set_option maxHeartbeats 2000000 in
theorem framing_any (v : Value) (xs : List ByteArray) (more : ByteArray) (p : Int) (w : World) (h : StrRow.Reads w v xs) (hxs : ∀ s ∈ xs, s.size ≤ maxLen) (hxl : xs.length ≤ maxLen) (hm : more.size ≤ maxLen) :
    Calls Try.prog 5 #[v, .string more, .int .i64 p] w fun e w' => e = .returned (.bool true) ∧ Below w.heap.size w w' := by
  obtain ⟨aa, ca, rfl⟩ := h.form
  have HA : Hid (StrRow.Reads w (.slice aa xs.length ca) xs ∧ (∀ s ∈ xs, s.size ≤ maxLen)) := ⟨h, hxs⟩
  clear h hxs
  unfold maxLen at hxl
  have hxl2 : (xs.length : Int) ≤ 9223372036854775807 := by omega
  clear hxl
  obtain ⟨X, hX⟩ : ∃ X, X = firsts xs := ⟨_, rfl⟩
  have HX : Hid (X = firsts xs ∧ X.length = min 6 xs.length ∧ ∀ s ∈ X, s.size ≤ 500) := ⟨hX, by rw [hX, firsts_length], by rw [hX]; exact firsts_size⟩
  clear hX
  have hX6 : X.length ≤ 6 := by have := HX.out.2.1; omega
  have HM : Hid (∀ w : World, Calls Try.prog 9 #[.string more] w fun e w' => e = .returned (.string (few more)) ∧ w' = w) := fun w => few_any more w hm
  have hmf := few_size more
  generalize few more = mo at HM hmf
  clear hm
  go_enter Try.func5, Try.ntmps5
  go_upto_block 0 with fail
  go_cut [7, 8, 9] (fun va vk _ wr => va = .string (allF X) ∧ vk = .int .i64 X.length ∧ Hid (Below w.heap.size w wr))
  case first =>
    go_wp2_with fail
    go_loopw [7, 8, 9] (fun va vk vi wr => ∃ i : Nat, i ≤ X.length ∧ vi = .int .i64 i ∧ vk = .int .i64 i ∧ va = .string (allF (X.take i)) ∧ Hid (Below w.heap.size w wr)) (fun _ _ vi _ => 6 - (intOf vi).toNat)
    case atStart => exact ⟨0, Nat.zero_le _, rfl, rfl, rfl, Below.refl _ _⟩
    case round =>
      obtain ⟨i, hi, rfl, rfl, rfl, HB⟩ := hrel
      by_cases hlt : i < X.length
      · have h6 : (i : Int) < 6 := by omega
        have hla : (i : Int) < xs.length := by have := HX.out.2.1; omega
        obtain ⟨b, off, cap, hv, hcap, hbN⟩ := HA.out.1.at (by intro h; rw [h] at hla; simp at hla; omega)
        simp only [Value.slice.injEq, true_and] at hv
        obtain ⟨rfl, rfl⟩ := hv
        obtain ⟨s, hs⟩ : ∃ s, xs[i]? = some s := ⟨_, List.getElem?_eq_getElem (by omega)⟩
        have hcell : wr.cell? ⟨b, off + i, none⟩ = some (.string s) := by
          rw [HB.out.cell (p := ⟨b, off + i, none⟩) hbN]
          exact HA.out.1.cell hs
        have hsz := HA.out.2 s (List.mem_of_getElem? hs)
        have HS : Hid (X[i]? = some (few s)) := by have := HX.out.1; rw [Hid, this]; exact firsts_at (by omega) hs
        clear hs
        have K1 : Hid (∀ w : World, Calls Try.prog 9 #[.string s] w fun e w' => e = .returned (.string (few s)) ∧ w' = w) := fun w => few_any s w hsz
        have hfz := few_size s
        generalize few s = f at HS K1 hfz
        have K2 : Hid (∀ w : World, Calls Try.prog 19 #[.string f] w fun e w' => e = .returned (.string (frameB f)) ∧ Below w.heap.size w w') := fun w => frame_any f w (by omega)
        have K3 : Hid (∀ w : World, Calls Try.prog 20 #[.string f] w fun e w' => e = .returned (.string (frameB f)) ∧ Below w.heap.size w w') := fun w => rframe_any f w (by omega)
        have hft := frameB_size f
        have HT : Hid (allF (X.take (i + 1)) = allF (X.take i) ++ frameB f) := allF_take HS.out
        have hA : (allF (X.take i)).size ≤ 516 * (X.take i).length := allF_size _ (fun x hx => HX.out.2.2 x (List.mem_of_mem_take hx))
        have hA2 : (allF (X.take i)).size ≤ 3096 := by rw [List.length_take] at hA; omega
        clear hA
        generalize allF (X.take i) = A at HT hA2
        generalize frameB f = F at K2 K3 hft HT
        have Q1 : Hid (∀ d os, Calls Try.prog 9 #[.string s] (grow (redrawn wr d) os) fun e w'' => e = .returned (.string f) ∧ ∃ p : Regrown, w'' = grow (redrawn wr p.d) p.os) := fun d os => Calls.regrown_of ((K1.out _).mono fun _ _ ⟨he, hw⟩ => ⟨he, by rw [hw]; exact Below.refl _ _⟩)
        have Q2 : Hid (∀ d os, Calls Try.prog 19 #[.string f] (grow (redrawn wr d) os) fun e w'' => e = .returned (.string F) ∧ ∃ p : Regrown, w'' = grow (redrawn wr p.d) p.os) := fun d os => Calls.regrown_of (K2.out _)
        have Q3 : Hid (∀ d os, Calls Try.prog 20 #[.string f] (grow (redrawn wr d) os) fun e w'' => e = .returned (.string F) ∧ ∃ p : Regrown, w'' = grow (redrawn wr p.d) p.os) := fun d os => Calls.regrown_of (K3.out _)
        have C1 : ∀ d os, (grow (redrawn wr d) os).cell? ⟨b, off + i, none⟩ = some (.string s) := fun d os => cell_regrown hcell d os
        go_wp2_with fail
        refine wp_region_quiet_below (by kernel_rfl) (by kernel_rfl) ?_
        repeat (first | go_big_quiet_step (first | (go_at_call 9; exact Q1.out _ _) | (go_at_call 19; exact Q2.out _ _) | (go_at_call 20; exact Q3.out _ _)))
        refine wpQuiet_nil ?_
        rintro _ ⟨⟨dq, osq⟩, rfl⟩
        have hc2 := C1 dq osq
        have HB2 : Hid (Below w.heap.size w (grow (redrawn wr dq) osq)) := HB.out.trans ((below_regrown wr dq osq).mono HB.out.size)
        clear C1 Q1 Q2 Q3 hcell HB
        generalize grow (redrawn wr dq) osq = w2 at HB2 hc2
        go_wp2_with (first
          | (go_at_call 9; refine (K1.out _).mono ?_; rintro e w' ⟨rfl, rfl⟩)
          | (go_at_call 20; refine (K3.out _).mono ?_; rintro e w3 ⟨rfl, k3⟩))
        go_roundw
        case rel => exact ⟨i + 1, by omega, by go_num, by go_num, by rw [HT.out], HB2.out.trans (Below.mono (by assumption) HB2.out.size)⟩
        case measure => simp [intOf]; omega
      · have hix : i = X.length := by omega
        have HE : Hid (Value.string (allF (X.take i)) = .string (allF X) ∧ Value.int .i64 (i : Int) = .int .i64 X.length ∧ Hid (Below w.heap.size w wr)) := ⟨by rw [hix, List.take_of_length_le (Nat.le_refl _)], by rw [hix], HB.out⟩
        have hmn := HX.out.2.1
        by_cases h1 : i < xs.length
        · have hi6 : ¬ ((i : Int) < 6) := by omega
          have hla : (i : Int) < xs.length := by omega
          clear hix hmn
          go_wp2
          go_meet
          case rel => exact HE.out
        · have hla : ¬ ((i : Int) < xs.length) := by omega
          clear hix hmn
          go_wp2
          go_meet
          case rel => exact HE.out
  case rest =>
    obtain ⟨rfl, rfl, HC⟩ := hcut
    have hall := allF_size X HX.out.2.2
    have hall2 : (allF X).size ≤ 3096 := by omega
    clear hall
    go_wp2_with fail
    go_loopw [10, 11] (fun vp vi wr => ∃ i : Nat, i ≤ X.length ∧ vi = .int .i64 i ∧ vp = .int .i64 (allF (X.take i)).size ∧ Hid (Below w.heap.size w wr)) (fun _ vi _ => X.length - (intOf vi).toNat)
    case atStart => exact ⟨0, Nat.zero_le _, rfl, rfl, HC.out⟩
    case round =>
      obtain ⟨i, hi, rfl, rfl, HB⟩ := hrel
      by_cases hlt : i < X.length
      · have hla : (i : Int) < xs.length := by have := HX.out.2.1; omega
        obtain ⟨b, off, cap, hv, hcap, hbN⟩ := HA.out.1.at (by intro h; rw [h] at hla; simp at hla; omega)
        simp only [Value.slice.injEq, true_and] at hv
        obtain ⟨rfl, rfl⟩ := hv
        obtain ⟨s, hs⟩ : ∃ s, xs[i]? = some s := ⟨_, List.getElem?_eq_getElem (by omega)⟩
        have hcw : w.cell? ⟨b, off + i, none⟩ = some (.string s) := HA.out.1.cell hs
        have hsz := HA.out.2 s (List.mem_of_getElem? hs)
        have HS : Hid (X[i]? = some (few s)) := by have := HX.out.1; rw [Hid, this]; exact firsts_at (by omega) hs
        clear hs
        have K1 : Hid (∀ w : World, Calls Try.prog 9 #[.string s] w fun e w' => e = .returned (.string (few s)) ∧ w' = w) := fun w => few_any s w hsz
        have hfz := few_size s
        generalize few s = f at HS K1 hfz
        obtain ⟨C, hC⟩ := allF_split HS.out
        have hft := frameB_size f
        have hT := congrArg ByteArray.size (allF_take HS.out)
        rw [ByteArray.size_append, hft] at hT
        have hU : unframe (allF X) (allF (X.take i)).size = (f, ((allF (X.take i)).size : Int) + ((f.size : Int) + 16), 0) := by
          rw [hC]; exact unframe_at _ f C (by omega)
        have K2 : Hid (∀ w : World, Calls Try.prog 21 #[.string (allF X), .int .i64 (allF (X.take i)).size] w fun e w' => e = .returned (.tuple #[.string f, .int .i64 (((allF (X.take i)).size : Int) + ((f.size : Int) + 16)), .int .i64 0]) ∧ Below w.heap.size w w') := fun w => by
          have := unframe_any (allF X) (allF (X.take i)).size w (by omega)
          rwa [hU] at this
        have HT : Hid ((allF (X.take (i + 1))).size = (allF (X.take i)).size + (f.size + 16)) := hT
        clear hC hU hT
        generalize (allF (X.take i)).size = a at K2 HT
        have hn1 : ¬ ((a : Int) + ((f.size : Int) + 16) ≤ a) := by omega
        go_wp2_with (go_at_call 21; refine (K2.out _).mono ?_; rintro e w2 ⟨rfl, k2⟩; have HB2 : Hid (Below w.heap.size w w2) := HB.out.trans (k2.mono HB.out.size); have hc2 : w2.cell? ⟨b, off + i, none⟩ = some (.string s) := (HB2.out.cell (p := ⟨b, off + i, none⟩) hbN).trans hcw; clear k2)
        refine (K1.out _).mono ?_
        rintro e w3 ⟨rfl, rfl⟩
        go_wp2
        go_roundw
        case rel => exact ⟨i + 1, by omega, by go_num, by rw [HT.out]; go_num, HB2.out⟩
        case measure => simp [intOf]; omega
      · have hix : i = X.length := by omega
        subst hix
        rw [List.take_of_length_le (Nat.le_refl _)]
        have hb : (allF X ++ mo).size ≤ 1000000 := by rw [ByteArray.size_append]; omega
        have U1 : Hid (∀ w : World, Calls Try.prog 21 #[.string (allF X ++ mo), .int .i64 p] w fun e w' => e = .returned (.tuple #[.string (unframe (allF X ++ mo) p).1, .int .i64 (unframe (allF X ++ mo) p).2.1, .int .i64 (unframe (allF X ++ mo) p).2.2]) ∧ Below w.heap.size w w') := fun w => unframe_any _ p w hb
        have U2 : Hid (∀ w : World, Calls Try.prog 22 #[.string (allF X ++ mo), .int .i64 p] w fun e w' => e = .returned (.tuple #[.string (unframe (allF X ++ mo) p).1, .int .i64 (unframe (allF X ++ mo) p).2.1, .int .i64 (unframe (allF X ++ mo) p).2.2]) ∧ Below w.heap.size w w') := fun w => runframe_any _ p w hb
        generalize (unframe (allF X ++ mo) p).1 = u1 at U1 U2
        generalize (unframe (allF X ++ mo) p).2.1 = u2 at U1 U2
        generalize (unframe (allF X ++ mo) p).2.2 = u3 at U1 U2
        generalize allF X = A at U1 U2 hall2 hb
        go_wp2_with (first
          | (go_at_call 9; refine (HM.out _).mono ?_; rintro e w' ⟨rfl, rfl⟩)
          | (go_at_call 21; refine (U1.out _).mono ?_; rintro e w1 ⟨rfl, k1⟩; have H1 : Hid (Below w.heap.size w w1) := HB.out.trans (k1.mono HB.out.size); clear k1)
          | (go_at_call 22; refine (U2.out _).mono ?_; rintro e w2 ⟨rfl, k2⟩; have H2 : Hid (Below w.heap.size w w2) := H1.out.trans (k2.mono H1.out.size); clear k2)
          | (go_at_call 13; refine (awake_any _).mono ?_; rintro e w3 ⟨rfl, k3⟩; have H3 : Hid (Below w.heap.size w w3) := H2.out.trans (k3.mono H2.out.size); clear k3))
        go_ret
        exact ⟨rfl, H3.out⟩
end Go.Proofs.Ytajbhfejjenloaa
