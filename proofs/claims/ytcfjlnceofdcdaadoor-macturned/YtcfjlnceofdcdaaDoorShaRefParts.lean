/- Contracts of the reference on parts for a purpose. -/
import Derived.Test.YtcfjlnceofdcdaaDoorRows
import Derived.Test.YtcfjlnceofdcdaaDoorShaRefSum
import Derived.Test.YtcfjlnceofdcdaaDoorShaNumberOwn
import Derived.Test.YtcfjlnceofdcdaaDoorStrs
import Derived.Test.YtcfjlnceofdcdaaDoorShaMath4
import Derived.WalkKit
import Derived.WalkSpells
import Derived.WalkLawsBesides
import Derived.Deep.QuietTactic
import Derived.Deep.RegionWith
import Derived.Test.YtcfjlnceofdcdaaDoorTail
import Derived.BigQuiet
import Derived.Deep.WholeRow
import Derived.Deep.DeepCutAuto
import Derived.Lib.QuietBelow
import Derived.Lib.AppendStr
namespace Go.Proofs.YtcfjlnceofdcdaaDoor
open Go.RowKit
open Go.Sort
theorem ShaW.be4 (n : Nat) (hn : n ≤ 100000) : (#[Value.int IntKind.u8 ((n : Int) / 16777216), Value.int IntKind.u8 ((n : Int) / 65536 % 256), Value.int IntKind.u8 ((n : Int) / 256 % 256), Value.int IntKind.u8 ((n : Int) % 256)] : Array Value) = ((Sha.be n 4).map Sha.byteV).toArray := by
  have e3 : (2 : Int) ^ (8 * 3) = 16777216 := by decide
  have e2 : (2 : Int) ^ (8 * 2) = 65536 := by decide
  have e1 : (2 : Int) ^ (8 * 1) = 256 := by decide
  have e0 : (2 : Int) ^ (8 * 0) = 1 := by decide
  have e4 : (n : Int) / 16777216 % 256 = (n : Int) / 16777216 := by omega
  simp only [Sha.be, List.map_cons, List.map_nil, Sha.byteV_of, e3, e2, e1, e0, e4, Int.ediv_one]
set_option maxRecDepth 100000 in
set_option maxHeartbeats 1000000 in
theorem four_any (n : Nat) (w : World) (hn : n ≤ 100000) :
    Calls Tryd.prog 36 #[.int .i64 n] w fun e w' => e = .returned (.string ⟨(Sha.be n 4).toArray⟩) ∧ Below w.heap.size w w' := by
  have hn2 : (n : Int) ≤ 100000 := by omega
  go_enter Tryd.func36, Tryd.ntmps36
  go_wp2_with (refine ByteRow.to_string _ rfl 40 9 5 _ rfl (Sha.be n 4) rfl (ByteRow.Has.lit (Nat.le_refl _) _ _ _ (Sha.be_length _ _).symm (ShaW.be4 n hn) _) (by simp [Sha.be]) under46 under5 under9 ?_)
  go_ret
  exact ⟨rfl, (Below.refl _ _).alloc (Nat.le_refl _) _⟩
set_option maxRecDepth 100000 in
set_option maxHeartbeats 1000000 in
theorem rparts_any (p : UInt8) (v : Value) (xs : List ByteArray) (w : World) (hr : StrRow.Reads w v xs) (hn : xs.length ≤ 8) (hx : ∀ s ∈ xs, s.size ≤ 700) :
    Calls Tryd.prog 31 #[.int .u8 p.toNat, v] w fun e w' => e = .returned (.string ⟨(Sha.parts p (xs.map fun s => s.data.toList)).toArray⟩) ∧ Below w.heap.size w w' := by
  obtain ⟨a, c, rfl⟩ := hr.form
  have HR : Hid (StrRow.Reads w (.slice a xs.length c) xs) := hr
  clear hr
  have hn2 : (xs.length : Int) ≤ 8 := by omega
  go_enter Tryd.func31, Tryd.ntmps31
  go_wp2_with fail
  have hcv : ∀ (V : World) (g : Nat), V.cell? ⟨g, 0, none⟩ = some (.int .u8 p.toNat) → (convert 40 9 (.slice (some ⟨g, 0, none⟩) 1 1)).run Tryd.prog V = .ok (.string ⟨#[p]⟩) V := fun V g hc =>
    run_convert_bytes_back (P := Tryd.prog) V 40 9 5 ⟨g, 0, none⟩ 1 [p] under46 under5 under9 (fun j hj => by
      have hj0 : j = 0 := by simpa using hj
      subst hj0
      exact hc)
  go_cut [5, 6] (fun v u wr => ∃ r : ByteArray, v = .string r ∧ u = .string ⟨#[]⟩ ∧ r.size = 5 ∧ Hid (r.data.toList = [p] ++ Sha.be xs.length 4 ∧ Below w.heap.size w wr))
  case first =>
    go_region_with (go_at_call 36; go_must (refine (four_any xs.length _ (by omega)).mono ?_); rintro e w1 ⟨rfl, hb1⟩; first | (have hc : w1.cell? ⟨w.heap.size, 0, none⟩ = some (.int .u8 p.toNat) := by (rw [hb1.cell (p := ⟨w.heap.size, 0, none⟩) (by simp)]; simp)) | skip)
    all_goals
      go_wp2
      go_meet
      case rel =>
        refine ⟨_, rfl, rfl, ?_, ?_, ?_⟩
        · rw [Sha.app_size]
          show 1 + (Sha.be xs.length 4).toArray.size = 5
          rw [List.size_toArray, Sha.be_length]
        · show _ = _
          rw [Sha.app_list]
        · first | exact ((((Below.refl w.heap.size w).alloc (Nat.le_refl _) _).drew).trans (hb1.mono (by simp))) | exact ((((Below.refl w.heap.size w).drew).trans hb1).alloc hb1.size _)
  case rest =>
    obtain ⟨r, rfl, rfl, hr5, HH⟩ := hcut
    clear hcv
    go_wp2_with fail
    go_loopw [5, 6, 7] (fun vr vt vi wr => ∃ (i : Nat) (r t : ByteArray), i ≤ xs.length ∧ vi = .int .i64 i ∧ vr = .string r ∧ vt = .string t ∧ r.size ≤ 5 + 4 * i ∧ t.size ≤ 700 * i ∧ Hid (r.data.toList = [p] ++ Sha.be xs.length 4 ++ Sha.lens ((xs.take i).map fun s => s.data.toList) ∧ t.data.toList = ((xs.take i).map fun s => s.data.toList).flatten ∧ Below w.heap.size w wr)) (fun _ _ vi _ => 8 - (intOf vi).toNat)
    case atStart => exact ⟨0, r, _, by omega, rfl, rfl, rfl, by omega, by show (0 : Nat) ≤ _; omega, by rw [HH.out.1]; simp [Sha.lens], by simp, HH.out.2⟩
    case round =>
      clear HH hr5
      obtain ⟨i, r, t, hi, rfl, rfl, rfl, hr, ht, HH⟩ := hrel
      by_cases hlt : i < xs.length
      · obtain ⟨b, off, cap, hv, hcap, hbl⟩ := HR.out.at (by intro h; rw [h] at hlt; simp at hlt)
        simp only [Value.slice.injEq, true_and] at hv
        obtain ⟨rfl, rfl⟩ := hv
        obtain ⟨s, hs⟩ : ∃ s, xs[i]? = some s := ⟨_, List.getElem?_eq_getElem hlt⟩
        have hss : s.size ≤ 700 := hx s (List.mem_of_getElem? hs)
        have hcell : wr.cell? ⟨b, off + i, none⟩ = some (.string s) := (HH.out.2.2.cell (p := ⟨b, off + i, none⟩) hbl).trans (HR.out.cell hs)
        have HT : Hid ((xs.take (i + 1)).map (fun s => s.data.toList) = (xs.take i).map (fun s => s.data.toList) ++ [s.data.toList]) := by
          show _ = _
          rw [List.take_add_one, hs]; simp
        clear hs
        have hlt2 : (i : Int) < xs.length := by omega
        go_wp2_with fail
        refine (four_any s.size _ (by omega)).mono ?_
        rintro e w1 ⟨rfl, hb1⟩
        have hcell1 : w1.cell? ⟨b, off + i, none⟩ = some (.string s) := (hb1.cell (p := ⟨b, off + i, none⟩) (by show b < wr.heap.size; have := HH.out.2.2.size; omega)).trans hcell
        have H4 : Hid ((⟨(Sha.be s.size 4).toArray⟩ : ByteArray).size = 4 ∧ Below w.heap.size w w1) := ⟨by show (Sha.be s.size 4).toArray.size = 4; rw [List.size_toArray, Sha.be_length], HH.out.2.2.trans (hb1.mono HH.out.2.2.size)⟩
        have hb4 : (⟨(Sha.be s.size 4).toArray⟩ : ByteArray).size ≤ 4 := by rw [H4.out.1]; omega
        have HE : Hid ((⟨(Sha.be s.size 4).toArray⟩ : ByteArray).data.toList = Sha.be s.data.toList.length 4) := by
          show Sha.be s.size 4 = _
          rw [show s.data.toList.length = s.size by simp]
        generalize (⟨(Sha.be s.size 4).toArray⟩ : ByteArray) = f at *
        clear hb1 hcell
        go_wp2
        go_roundw
        case rel =>
          obtain ⟨h1, h2, h3⟩ := HH.out
          have e1 := HT.out
          have e2 := HE.out
          refine ⟨i + 1, r ++ f, t ++ s, by omega, by go_num, rfl, rfl, by rw [Sha.app_size]; omega, by rw [Sha.app_size]; omega, ?_, ?_, H4.out.2⟩
          · show _ = _
            rw [Sha.app_list, h1, e1, Sha.lens_snoc, e2, List.append_assoc]
          · rw [Sha.app_list, h2, e1]; simp
        case measure => simp [intOf]; omega
      · have hin : i = xs.length := by omega
        subst hin
        go_wp2
        go_ret
        refine ⟨?_, HH.out.2.2⟩
        have hb : r ++ t = ⟨(Sha.parts p (xs.map fun s => s.data.toList)).toArray⟩ := by
          apply Sha.ba_ext
          obtain ⟨h1, h2, _⟩ := HH.out
          rw [Sha.app_list, h1, h2, List.take_of_length_le (Nat.le_refl _), Sha.parts, List.length_map]
        show Ending.returned (Value.string (r ++ t)) = _
        rw [hb]
end Go.Proofs.YtcfjlnceofdcdaaDoor
