/- The walk of the statement on texts: which may be names and paths, how they are small, fixed, and cut. -/
import Derived.Test.YtpihgffcfoelbaaDoorNamePath
import Derived.Test.YtpihgffcfoelbaaDoorNameRefPath
import Derived.Test.YtpihgffcfoelbaaDoorNameSplit
import Derived.Test.YtpihgffcfoelbaaDoorNameFix
import Derived.Test.YtpihgffcfoelbaaDoorNameAwake
namespace Go.Proofs.YtpihgffcfoelbaaDoor
open Go.RowKit Go.Names
theorem legal_fix (l : Bs) : legal (fix l) = true := by
  have h := asg_legal [l] (by simp) (fix l) (by
    have e : asg [l] = [pick ([].map fold) (fix l)] := by have := asg_snoc [] l; simpa [asg_nil] using this
    rw [e, pick_own (by simp)]
    simp)
  exact h
set_option maxRecDepth 100000 in
set_option maxHeartbeats 4000000 in
theorem nameTexts_any (s : ByteArray) (w : World) (hv : Vt w) :
    Calls Tryd.prog 3 #[.string s] w fun e w' => e = .returned (.bool true) ∧ Below w.heap.size w w' := by
  have hts := few_size s
  have HFew := hide (few_any s)
  generalize few s = t at hts HFew
  have HV := hide hv
  clear hv
  have HL := hide (fun w1 => legal_any t w1 (by omega))
  have HRL := hide (fun w1 => rlegal_any t w1 (by omega))
  have HF := hide (fun w1 => fold_any t w1 (by omega))
  have HRF := hide (fun w1 => rfold_any t w1 (by omega))
  have HX := hide (fun w1 => fix_any t w1 (by omega))
  have HRX := hide (fun w1 => rfix_any t w1 (by omega))
  obtain ⟨X, hX⟩ : ∃ X : ByteArray, X = ⟨(fix t.data.toList).toArray⟩ := ⟨_, rfl⟩
  rw [← hX] at HX HRX
  have HLX := hide (fun w1 => legal_any X w1 (by rw [hX, ba_size]; have := fix_length t.data.toList; omega))
  rw [show X.data.toList = fix t.data.toList by rw [hX], legal_fix] at HLX
  have HP := hide (fun w1 => path_any t w1 (by omega))
  have HRP := hide (fun w1 => rpath_any t w1 (by omega))
  have HS := hide (fun w1 => split_any t w1 (by omega))
  have HRS := hide (fun w1 => rsplit_any t w1 (by omega))
  generalize legal t.data.toList = b1 at HL HRL
  generalize (⟨(fold t.data.toList).toArray⟩ : ByteArray) = Y at HF HRF
  generalize pathB t.data.toList = b2 at HP HRP
  generalize (splitB t).1 = S1 at HS HRS
  generalize (splitB t).2 = S2 at HS HRS
  clear hX hts
  have HX2 := HX
  have H := hide (Below.refl w.heap.size w)
  go_enter Tryd.func3, Tryd.ntmps3
  go_wp2_with (first
    | (go_at_call 7; refine (HFew.out _).mono ?_; clear HFew; rintro e w1 ⟨rfl, h1⟩; replace h1 := h1.symm; subst h1)
    | (go_at_call 8; refine (HS.out _).mono ?_; clear HS; rintro e w1 ⟨rfl, k⟩; replace H := hide (H.out.trans (k.mono H.out.size)); clear k)
    | (go_at_call 9; refine (HRS.out _).mono ?_; clear HRS; rintro e w1 ⟨rfl, k⟩; replace H := hide (H.out.trans (k.mono H.out.size)); clear k)
    | (go_at_call 11; refine (HL.out _).mono ?_; clear HL; rintro e w1 ⟨rfl, h1⟩; replace h1 := h1.symm; subst h1)
    | (go_at_call 12; refine (HRL.out _).mono ?_; clear HRL; rintro e w1 ⟨rfl, h1⟩; replace h1 := h1.symm; subst h1)
    | (go_at_call 13; refine (HF.out _).mono ?_; clear HF; rintro e w1 ⟨rfl, k⟩; replace H := hide (H.out.trans (k.mono H.out.size)); clear k)
    | (go_at_call 14; refine (HRF.out _).mono ?_; clear HRF; rintro e w1 ⟨rfl, k⟩; replace H := hide (H.out.trans (k.mono H.out.size)); clear k)
    | (go_at_call 15; refine (HX.out _).mono ?_; clear HX; rintro e w1 ⟨rfl, k⟩; replace H := hide (H.out.trans (k.mono H.out.size)); clear k)
    | (go_at_call 16; refine (HRX.out _).mono ?_; clear HRX; rintro e w1 ⟨rfl, k⟩; replace H := hide (H.out.trans (k.mono H.out.size)); clear k)
    | (go_at_call 15; refine (HX2.out _).mono ?_; clear HX2; rintro e w1 ⟨rfl, k⟩; replace H := hide (H.out.trans (k.mono H.out.size)); clear k)
    | (go_at_call 11; refine (HLX.out _).mono ?_; rintro e w1 ⟨rfl, h1⟩; replace h1 := h1.symm; subst h1)
    | (go_at_call 17; refine (HP.out _).mono ?_; clear HP; rintro e w1 ⟨rfl, k⟩; replace H := hide (H.out.trans (k.mono H.out.size)); clear k)
    | (go_at_call 18; refine (HRP.out _).mono ?_; clear HRP; rintro e w1 ⟨rfl, k⟩; replace H := hide (H.out.trans (k.mono H.out.size)); clear k)
    | (go_at_call 10; refine (awake_any _ (HV.out.below HV.out.size H.out)).mono ?_; rintro e w1 ⟨rfl, k⟩; replace H := hide (H.out.trans (k.mono H.out.size)); clear k))
  go_ret
  exact ⟨by simp, H.out⟩
end Go.Proofs.YtpihgffcfoelbaaDoor
