/- The walk of WireGives. -/
import Derived.Test.YtajbhfejjenloaaWireAll
import Derived.Test.YtajbhfejjenloaaWireBack
import Derived.Test.YtajbhfejjenloaaWireQuiet
import Derived.Test.YtajbhfejjenloaaWireStructRows
import Derived.Deep.CutBlock
import Derived.Deep.DeepCutAuto
namespace Go.Wire
/-- What is put: a kind, a number, a text. -/
structure Gv where
  kind : Int
  n : Int
  s : ByteArray
def Gv.cell (g : Gv) : Nat → Value
  | 0 => .int .i64 g.kind
  | 1 => .int .i64 g.n
  | _ => .string g.s
end Go.Wire
namespace Go.Proofs.Ytajbhfejjenloaa
open Go.RowKit Go.Wire Go.Sort
set_option maxRecDepth 100000 in
set_option maxHeartbeats 4000000 in
theorem gives_any (v : Value) (n : Nat) (gs : Nat → Gv) (w : World) (h : SRow w 3 v n (fun j => (gs j).cell)) (hgs : ∀ j, j < n → (gs j).s.size ≤ maxLen ∧ -9223372036854775808 ≤ (gs j).n ∧ (gs j).n ≤ 9223372036854775807) (hnl : n ≤ maxLen) :
    Calls Try.prog 7 #[v] w fun e w' => e = .returned (.bool true) ∧ Below w.heap.size w w' := by
  obtain ⟨aa, ca, rfl⟩ := h.form
  have HA : Hid (SRow w 3 (.slice aa n ca) n (fun j => (gs j).cell) ∧ (∀ j, j < n → (gs j).s.size ≤ maxLen ∧ -9223372036854775808 ≤ (gs j).n ∧ (gs j).n ≤ 9223372036854775807)) := ⟨h, hgs⟩
  clear h hgs
  unfold maxLen at hnl
  have hnl2 : (n : Int) ≤ 9223372036854775807 := by omega
  clear hnl
  go_enter Try.func7, Try.ntmps7
  go_upto_block 0 with (go_at_call 35; refine (newWriter_any _).mono ?_; rintro e w1 ⟨rfl, h1, k1⟩)
  have HW0 : Hid (Wr 85 w.heap.size w.heap.size [] w1 ∧ Below w.heap.size w w1) := ⟨h1, k1⟩
  clear h1 k1
  generalize hB : w.heap.size = B at HW0
  go_cut [4, 5] (fun va _ wr => ∃ a : ByteArray, va = .string a ∧ a.size ≤ 20000 ∧ Hid (Wr 85 B B a.data.toList wr ∧ Below B w wr))
  case first =>
    go_wp2_with fail
    go_loopw [4, 5] (fun va vi wr => ∃ (i : Nat) (a : ByteArray), i ≤ min 20 n ∧ vi = .int .i64 i ∧ va = .string a ∧ a.size ≤ 600 * i ∧ Hid (Wr 85 B B a.data.toList wr ∧ Below B w wr)) (fun _ vi _ => 20 - (intOf vi).toNat)
    case atStart => exact ⟨0, ⟨#[]⟩, Nat.zero_le _, rfl, rfl, Nat.le_refl _, HW0.out⟩
    case round =>
      obtain ⟨i, a, hi, rfl, rfl, ha, HB⟩ := hrel
      by_cases hlt : i < min 20 n
      · have h20 : (i : Int) < 20 := by omega
        have hla : (i : Int) < n := by omega
        obtain ⟨b, off, rfl, hbN, hcap, hcells⟩ := HA.out.1.at (by omega)
        have hc0 := hcells i 0 (by omega) (by omega)
        have hc1 := hcells i 1 (by omega) (by omega)
        have hc2 := hcells i 2 (by omega) (by omega)
        have hgi := HA.out.2 i (by omega)
        clear hcells
        generalize gs i = g at hc0 hc1 hc2 hgi
        obtain ⟨kd, m, s⟩ := g
        simp only [Gv.cell] at hc0 hc1 hc2 hgi
        have hr0 : wr.cell? ⟨b, off + i * 3, none⟩ = some (.int .i64 kd) := (HB.out.2.cell (p := ⟨b, off + i * 3, none⟩) (by rw [← hB]; exact hbN)).trans hc0
        have hr1 : wr.cell? ⟨b, off + i * 3 + 1, none⟩ = some (.int .i64 m) := (HB.out.2.cell (p := ⟨b, off + i * 3 + 1, none⟩) (by rw [← hB]; exact hbN)).trans hc1
        have hr2 : wr.cell? ⟨b, off + i * 3 + 2, none⟩ = some (.string s) := (HB.out.2.cell (p := ⟨b, off + i * 3 + 2, none⟩) (by rw [← hB]; exact hbN)).trans hc2
        have K1 : Hid (∀ w : World, Calls Try.prog 9 #[.string s] w fun e w' => e = .returned (.string (few s)) ∧ w' = w) := fun w => few_any s w hgi.1
        have hfz := few_size s
        generalize few s = f at K1 hfz
        have hm0 := hgi.2.1
        have hm1 := hgi.2.2
        clear hgi hc0 hc1 hc2
        have C0 : ∀ d os, (grow (redrawn wr d) os).cell? ⟨b, off + i * 3, none⟩ = some (.int .i64 kd) := fun d os => cell_regrown hr0 d os
        have C1 : ∀ d os, (grow (redrawn wr d) os).cell? ⟨b, off + i * 3 + 1, none⟩ = some (.int .i64 m) := fun d os => cell_regrown hr1 d os
        have C2 : ∀ d os, (grow (redrawn wr d) os).cell? ⟨b, off + i * 3 + 2, none⟩ = some (.string s) := fun d os => cell_regrown hr2 d os
        have Q1 : Hid (∀ d os, Calls Try.prog 9 #[.string s] (grow (redrawn wr d) os) fun e w'' => e = .returned (.string f) ∧ ∃ p : Regrown, w'' = grow (redrawn wr p.d) p.os) := fun d os => Calls.regrown_of ((K1.out _).mono fun _ _ ⟨he, hw⟩ => ⟨he, by rw [hw]; exact Below.refl _ _⟩)
        go_wp2_with fail
        refine wp_region_quiet_below (by kernel_rfl) (by kernel_rfl) ?_
        repeat (first | go_big_quiet_step (first | (go_at_call 9; exact Q1.out _ _)))
        refine wpQuiet_nil ?_
        rintro _ ⟨⟨dq, osq⟩, rfl⟩
        have hk2 := C0 dq osq
        have HB2 : Hid (WAt 85 B (.pointer (some ⟨B, 0, none⟩)) a.data.toList (grow (redrawn wr dq) osq) ∧ Below B w (grow (redrawn wr dq) osq) ∧ B ≤ (grow (redrawn wr dq) osq).heap.size) := by
          have hsz : B ≤ wr.heap.size := by rw [← hB]; exact HB.out.2.size
          have hq := below_regrown wr dq osq
          exact ⟨.inr ⟨B, rfl, HB.out.1.below hq⟩, HB.out.2.trans (hq.mono hsz), Nat.le_trans hsz hq.size⟩
        clear C0 C1 C2 Q1 hr0 hr1 hr2 HB
        generalize grow (redrawn wr dq) osq = w2 at HB2 hk2
        have hla2 : a.data.toList.length ≤ 12000 := by rw [show a.data.toList.length = a.size by simp]; omega
        have hsl : a.size ≤ 12000 := by omega
        have fin : ∀ (x : ByteArray) (X : List UInt8) (w3 w4 : World), x.data.toList = X → x.size ≤ 600 → WAt 85 B (.pointer (some ⟨B, 0, none⟩)) (a.data.toList ++ X) w3 → Below B w2 w3 → Below w3.heap.size w3 w4 → ∃ (i' : Nat) (a' : ByteArray), i' ≤ min 20 n ∧ Value.int .i64 ((i : Int) + 1) = .int .i64 i' ∧ Value.string (a ++ x) = .string a' ∧ a'.size ≤ 600 * i' ∧ Hid (Wr 85 B B a'.data.toList w4 ∧ Below B w w4) := by
          intro x X w3 w4 hx hxs h3 k3 k4
          have h4 := h3.below k4
          have hwr : Wr 85 B B (a.data.toList ++ X) w4 := by
            rcases h4 with h | ⟨b', h, hr⟩
            · cases h
            · obtain rfl : B = b' := by simpa using h
              exact hr
          refine ⟨i + 1, a ++ x, by omega, by go_num, rfl, by rw [ByteArray.size_append]; omega, ?_, (HB2.out.2.1.trans k3).trans (k4.mono (Nat.le_trans HB2.out.2.2 k3.size))⟩
          rw [show (a ++ x).data.toList = a.data.toList ++ X by rw [← hx]; simp]
          exact hwr
        have FIN := Hid.out fin
        have HF : Hid (∀ (x : ByteArray) (X : List UInt8) (w3 w4 : World), x.data.toList = X → x.size ≤ 600 → WAt 85 B (.pointer (some ⟨B, 0, none⟩)) (a.data.toList ++ X) w3 → Below B w2 w3 → Below w3.heap.size w3 w4 → ∃ (i' : Nat) (a' : ByteArray), i' ≤ min 20 n ∧ Value.int .i64 ((i : Int) + 1) = .int .i64 i' ∧ Value.string (a ++ x) = .string a' ∧ a'.size ≤ 600 * i' ∧ Hid (Wr 85 B B a'.data.toList w4 ∧ Below B w w4)) := FIN
        clear fin FIN
        by_cases hk1 : kd = 1
        · subst hk1
          obtain ⟨u, hu⟩ : ∃ u : Nat, IntKind.u64.wrap m = (u : Int) := ⟨(m % 18446744073709551616).toNat, by rw [wrap_u64]; omega⟩
          have hul : u < 18446744073709551616 := by rw [wrap_u64] at hu; omega
          have he : (min (max (f.size : Int) 0) 8).toNat = min f.size 8 := by omega
          have H1 : Hid (Calls Try.prog 36 #[.pointer (some ⟨B, 0, none⟩), .int .u64 u, .int .i64 f.size] w2 fun e w' => e = .returned (.tuple #[]) ∧ WAt 85 B (.pointer (some ⟨B, 0, none⟩)) (a.data.toList ++ num (2 * min f.size 8) u) w' ∧ Below B w2 w') := by have := wnumber_any B _ _ u f.size w2 HB2.out.1 (.inr (by omega)) HB2.out.2.2 hul; rwa [he] at this
          have H2 : Hid (∀ w : World, Calls Try.prog 37 #[.int .u64 u, .int .i64 f.size] w fun e w' => e = .returned (.string (numB (2 * min f.size 8) u)) ∧ Below w.heap.size w w') := fun w => rnum_any u f.size w hul (by omega)
          have hx : (numB (2 * min f.size 8) u).data.toList = num (2 * min f.size 8) u := numB_list _ _
          have hxs : (numB (2 * min f.size 8) u).size ≤ 600 := by rw [numB_size]; omega
          have HX : Hid ((numB (2 * min f.size 8) u).data.toList = num (2 * min f.size 8) u) := hx
          clear hx
          generalize num (2 * min f.size 8) u = X at H1 HX
          generalize numB (2 * min f.size 8) u = x at H2 HX hxs
          go_wp2_with (first | (go_at_call 36; refine H1.out.mono ?_; rintro e w3 ⟨rfl, h3, k3⟩) | (go_at_call 37; refine (H2.out _).mono ?_; rintro e w4 ⟨rfl, k4⟩))
          go_roundw
          case rel => exact HF.out x X _ _ HX.out hxs (by assumption) (by assumption) (by assumption)
          case measure => simp [intOf]; omega
        · by_cases hk2' : kd = 2
          · by_cases hmn : m < 0
            · subst hk2'
              have hmx : (max m 0).toNat = 0 := by omega
              have H1 : Hid (Calls Try.prog 38 #[.pointer (some ⟨B, 0, none⟩), .int .i64 m] w2 fun e w' => e = .returned (.tuple #[]) ∧ WAt 85 B (.pointer (some ⟨B, 0, none⟩)) (a.data.toList ++ num 8 0) w' ∧ Below B w2 w') := by have := wcount_any B _ _ m w2 HB2.out.1 (.inr (by omega)) HB2.out.2.2 hm1; rwa [hmx] at this
              have H2 : Hid (∀ w : World, Calls Try.prog 37 #[.int .u64 0, .int .i64 4] w fun e w' => e = .returned (.string (numB 8 0)) ∧ Below w.heap.size w w') := fun w => rnum_any 0 4 w (by decide) (by decide)
              have hx : (numB 8 0).data.toList = num 8 0 := numB_list _ _
              have hxs : (numB 8 0).size ≤ 600 := by rw [numB_size]; omega
              have HX : Hid ((numB 8 0).data.toList = num 8 0) := hx
              clear hx
              generalize num 8 0 = X at H1 HX
              generalize numB 8 0 = x at H2 HX hxs
              go_wp2_with (first | (go_at_call 38; refine H1.out.mono ?_; rintro e w3 ⟨rfl, h3, k3⟩) | (go_at_call 37; refine (H2.out _).mono ?_; rintro e w4 ⟨rfl, k4⟩))
              go_roundw
              case rel => exact HF.out x X _ _ HX.out hxs (by assumption) (by assumption) (by assumption)
              case measure => simp [intOf]; omega
            · subst hk2'
              obtain ⟨u, rfl⟩ : ∃ u : Nat, m = u := ⟨m.toNat, by omega⟩
              have hmx : (max (u : Int) 0).toNat = u := by omega
              have hu0 : ¬ ((u : Int) < 0) := by omega
              have hu1 : (0 : Int) ≤ u := by omega
              have H1 : Hid (Calls Try.prog 38 #[.pointer (some ⟨B, 0, none⟩), .int .i64 u] w2 fun e w' => e = .returned (.tuple #[]) ∧ WAt 85 B (.pointer (some ⟨B, 0, none⟩)) (a.data.toList ++ num 8 u) w' ∧ Below B w2 w') := by have := wcount_any B _ _ u w2 HB2.out.1 (.inr (by omega)) HB2.out.2.2 hm1; rwa [hmx] at this
              have H2 : Hid (∀ w : World, Calls Try.prog 37 #[.int .u64 u, .int .i64 4] w fun e w' => e = .returned (.string (numB 8 u)) ∧ Below w.heap.size w w') := fun w => rnum_any u 4 w (by omega) (by decide)
              have hx : (numB 8 u).data.toList = num 8 u := numB_list _ _
              have hxs : (numB 8 u).size ≤ 600 := by rw [numB_size]; omega
              have HX : Hid ((numB 8 u).data.toList = num 8 u) := hx
              clear hx
              generalize num 8 u = X at H1 HX
              generalize numB 8 u = x at H2 HX hxs
              go_wp2_with (first | (go_at_call 38; refine H1.out.mono ?_; rintro e w3 ⟨rfl, h3, k3⟩) | (go_at_call 37; refine (H2.out _).mono ?_; rintro e w4 ⟨rfl, k4⟩))
              go_roundw
              case rel => exact HF.out x X _ _ HX.out hxs (by assumption) (by assumption) (by assumption)
              case measure => simp [intOf]; omega
          · by_cases hk3 : kd = 3
            · subst hk3
              have H1 : Hid (Calls Try.prog 39 #[.pointer (some ⟨B, 0, none⟩), .string f] w2 fun e w' => e = .returned (.tuple #[]) ∧ WAt 85 B (.pointer (some ⟨B, 0, none⟩)) (a.data.toList ++ (num 8 f.size ++ f.data.toList)) w' ∧ Below B w2 w') := wtext_any B _ _ f w2 HB2.out.1 (.inr (by omega)) HB2.out.2.2 (by unfold maxLen; omega)
              have H2 : Hid (∀ w : World, Calls Try.prog 40 #[.string f] w fun e w' => e = .returned (.string (textB f)) ∧ Below w.heap.size w w') := fun w => rtextB_any f w (by omega)
              have hx : (textB f).data.toList = (num 8 f.size ++ f.data.toList) := by rw [textB, app_list, numB_list]
              have hxs : (textB f).size ≤ 600 := by rw [textB_size]; omega
              have HX : Hid ((textB f).data.toList = (num 8 f.size ++ f.data.toList)) := hx
              clear hx
              generalize (num 8 f.size ++ f.data.toList) = X at H1 HX
              generalize textB f = x at H2 HX hxs
              go_wp2_with (first | (go_at_call 39; refine H1.out.mono ?_; rintro e w3 ⟨rfl, h3, k3⟩) | (go_at_call 40; refine (H2.out _).mono ?_; rintro e w4 ⟨rfl, k4⟩))
              go_roundw
              case rel => exact HF.out x X _ _ HX.out hxs (by assumption) (by assumption) (by assumption)
              case measure => simp [intOf]; omega
            · by_cases hk4 : kd = 4
              · subst hk4
                have hpl := pad_length f.data.toList
                have H1 : Hid (Calls Try.prog 41 #[.pointer (some ⟨B, 0, none⟩), .string f] w2 fun e w' => e = .returned (.tuple #[]) ∧ WAt 85 B (.pointer (some ⟨B, 0, none⟩)) (a.data.toList ++ pad f.data.toList) w' ∧ Below B w2 w') := whash_any B _ _ f w2 HB2.out.1 (.inr (by omega)) HB2.out.2.2
                have H2 : Hid (∀ w : World, Calls Try.prog 42 #[.string f] w fun e w' => e = .returned (.string (⟨(pad f.data.toList).toArray⟩)) ∧ Below w.heap.size w w') := fun w => (rhash_any f w (by omega)).mono fun _ _ ⟨he, hw⟩ => ⟨he, by rw [hw]; exact Below.refl _ _⟩
                have hx : (⟨(pad f.data.toList).toArray⟩ : ByteArray).data.toList = pad f.data.toList := by simp
                have hxs : (⟨(pad f.data.toList).toArray⟩ : ByteArray).size ≤ 600 := by show (pad f.data.toList).toArray.size ≤ 600; rw [List.size_toArray, hpl]; decide
                have HX : Hid ((⟨(pad f.data.toList).toArray⟩ : ByteArray).data.toList = pad f.data.toList) := hx
                clear hx
                generalize (⟨(pad f.data.toList).toArray⟩ : ByteArray) = x at H2 HX hxs
                generalize pad f.data.toList = X at H1 HX
                go_wp2_with (first | (go_at_call 41; refine H1.out.mono ?_; rintro e w3 ⟨rfl, h3, k3⟩) | (go_at_call 42; refine (H2.out _).mono ?_; rintro e w4 ⟨rfl, k4⟩))
                go_roundw
                case rel => exact HF.out x X _ _ HX.out hxs (by assumption) (by assumption) (by assumption)
                case measure => simp [intOf]; omega
              · by_cases hk5 : kd = 5
                · subst hk5
                  obtain ⟨x, hxb⟩ : ∃ x, (bits .and .i64 m 1 == 1) = x := ⟨_, rfl⟩
                  have H1 : Hid (Calls Try.prog 43 #[.pointer (some ⟨B, 0, none⟩), .bool x] w2 fun e w' => e = .returned (.tuple #[]) ∧ WAt 85 B (.pointer (some ⟨B, 0, none⟩)) (a.data.toList ++ [if x then 121 else 110]) w' ∧ Below B w2 w') := wbool_any B _ _ x w2 HB2.out.1 (.inr (by omega)) HB2.out.2.2
                  have H2 : Hid (∀ w : World, Calls Try.prog 44 #[.bool x] w fun e w' => e = .returned (.string (⟨#[if x then 121 else 110]⟩)) ∧ Below w.heap.size w w') := fun w => (rboolB_any x w).mono fun _ _ ⟨he, hw⟩ => ⟨he, by rw [hw]; exact Below.refl _ _⟩
                  have hx : (⟨#[if x then 121 else 110]⟩ : ByteArray).data.toList = [if x then 121 else 110] := by simp
                  have hxs : (⟨#[if x then 121 else 110]⟩ : ByteArray).size ≤ 600 := by show 1 ≤ 600; decide
                  have HX : Hid ((⟨#[if x then 121 else 110]⟩ : ByteArray).data.toList = [if x then 121 else 110]) := hx
                  clear hx
                  generalize (⟨#[if x then 121 else 110]⟩ : ByteArray) = y at H2 HX hxs
                  generalize ([if x then 121 else 110] : List UInt8) = X at H1 HX
                  go_wp2_with (first | (go_at_call 43; refine H1.out.mono ?_; rintro e w3 ⟨rfl, h3, k3⟩) | (go_at_call 44; refine (H2.out _).mono ?_; rintro e w4 ⟨rfl, k4⟩))
                  go_roundw
                  case rel => exact HF.out y X _ _ HX.out hxs (by assumption) (by assumption) (by assumption)
                  case measure => simp [intOf]; omega
                · have n1 := beq_eq_false_iff_ne.2 hk1
                  have n2 := beq_eq_false_iff_ne.2 hk2'
                  have n3 := beq_eq_false_iff_ne.2 hk3
                  have n4 := beq_eq_false_iff_ne.2 hk4
                  have n5 := beq_eq_false_iff_ne.2 hk5
                  have H1 : Hid (Calls Try.prog 45 #[.pointer (some ⟨B, 0, none⟩), .string f] w2 fun e w' => e = .returned (.tuple #[]) ∧ WAt 85 B (.pointer (some ⟨B, 0, none⟩)) (a.data.toList ++ f.data.toList) w' ∧ Below B w2 w') := wbytes_any B _ _ f w2 HB2.out.1 (.inr (by omega)) HB2.out.2.2
                  have hxs : (f).size ≤ 600 := by omega
                  go_wp2_with (go_at_call 45; refine H1.out.mono ?_; rintro e w3 ⟨rfl, h3, k3⟩)
                  go_roundw
                  case rel => exact HF.out f _ _ _ rfl hxs (by assumption) (by assumption) (Below.refl _ _)
                  case measure => simp [intOf]; omega
      · have hix : i = min 20 n := by omega
        have HE : Hid (∃ a' : ByteArray, Value.string a = .string a' ∧ a'.size ≤ 20000 ∧ Hid (Wr 85 B B a'.data.toList wr ∧ Below B w wr)) := ⟨a, rfl, by omega, HB.out⟩
        by_cases h1 : i < n
        · have hi6 : ¬ ((i : Int) < 20) := by omega
          have hla : (i : Int) < n := by omega
          clear hix
          go_wp2
          go_meet
          case rel => exact HE.out
        · have hla : ¬ ((i : Int) < n) := by omega
          clear hix
          go_wp2
          go_meet
          case rel => exact HE.out
  case rest =>
    obtain ⟨a, rfl, ha, HC⟩ := hcut
    have HL : Hid (Wr 85 B B a.data.toList wc ∧ Below B w wc ∧ B ≤ wc.heap.size) := ⟨HC.out.1, HC.out.2, by rw [← hB]; exact HC.out.2.size⟩
    clear HC HW0
    have hal : (⟨a.data.toList.toArray⟩ : ByteArray) = a := by apply ByteArray.ext; simp
    have haz : a.data.toList.length = a.size := by simp
    have HA1 : Hid (∀ w4 : World, Below wc.heap.size wc w4 → Calls Try.prog 46 #[.pointer (some ⟨B, 0, none⟩)] w4 fun e w' => e = .returned (.string a) ∧ (∃ p ao cap, w'.heap[B]? = some (.cells #[p, .slice ao a.size cap] 85 (0, 0))) ∧ Below B w4 w') := fun w4 k4 => by
      have := all_any B B a.data.toList w4 (Nat.le_trans HL.out.2.2 k4.size) (HL.out.1.below k4)
      rwa [hal, haz] at this
    clear hal haz
    go_wp2_with (first
      | (go_at_call 13; refine (awake_any _).mono ?_; rintro e w4 ⟨rfl, k4⟩)
      | (go_at_call 46; refine (HA1.out _ k4).mono ?_; rintro e w5 ⟨rfl, ⟨p5, ao, cap5, h5⟩, k5⟩)
      | (go_at_call 47; refine (blen_any _ _ _ _ _ _ h5).mono ?_; rintro e w' ⟨rfl, rfl⟩))
    go_ret
    have k6 := (HL.out.2.1.trans (k4.mono HL.out.2.2)).trans k5
    rw [hB]
    exact ⟨rfl, k6⟩
end Go.Proofs.Ytajbhfejjenloaa
