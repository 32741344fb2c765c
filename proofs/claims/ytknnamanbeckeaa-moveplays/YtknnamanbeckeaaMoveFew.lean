/- Contract: operations that may be, not too many. -/
import Derived.Test.YtknnamanbeckeaaRowOpens
import Derived.Test.YtknnamanbeckeaaOpAll
import Derived.Test.YtknnamanbeckeaaRowsAll
namespace Go.Mov
open Go.RowKit Go.Rws
theorem Le.cs_length (e : Le) : e.cs.length = 10 := rfl
theorem le_one (e : Le) : ∀ u ∈ e.cs, u.oneCell' = true := by
  intro u hu
  unfold Le.cs at hu
  simp only [List.mem_cons, List.not_mem_nil, or_false] at hu
  rcases hu with rfl | rfl | rfl | rfl | rfl | rfl | rfl | rfl | rfl | rfl <;> rfl
theorem cells10l {w : World} {g o : Nat} {e : Le} (h : w.rangeAt g o e.cs) : w.cell? ⟨g, o, none⟩ = some (.int .i64 e.op.kind) ∧ w.cell? ⟨g, o + 1, none⟩ = some (.int .u64 e.op.tm.c) ∧ w.cell? ⟨g, o + 2, none⟩ = some (.int .i64 e.op.tm.k) ∧ w.cell? ⟨g, o + 3, none⟩ = some (.int .u64 e.op.thing) ∧ w.cell? ⟨g, o + 4, none⟩ = some (.int .u64 e.op.par) ∧ w.cell? ⟨g, o + 5, none⟩ = some (.string e.op.name) ∧ w.cell? ⟨g, o + 6, none⟩ = some (.bool e.op.dir) ∧ w.cell? ⟨g, o + 7, none⟩ = some (.string e.op.dg) ∧ w.cell? ⟨g, o + 8, none⟩ = some (.int .i64 e.op.size) ∧ w.cell? ⟨g, o + 9, none⟩ = some (.int .u8 (e.h.toNat : Nat)) :=
  ⟨h 0 _ rfl, h 1 _ rfl, h 2 _ rfl, h 3 _ rfl, h 4 _ rfl, h 5 _ rfl, h 6 _ rfl, h 7 _ rfl, h 8 _ rfl, h 9 _ rfl⟩
/-- Operations that may be. -/
def Right (ks : List Le) : Prop := (∀ e ∈ ks, e.Fits ∧ e.op.chk = 0) ∧ ks.length ≤ 60
end Go.Mov
namespace Go.Proofs.Ytknnamanbeckeaa
open Go.RowKit Go.Opn Go.Stamp Go.MapInt Go.Mov Go.Shelf Go.Rws
attribute [local go_sem] Oper.semAt_some
abbrev Lr := OwnR Le.cs 10 42
theorem infoLe3 : (Try.prog.info? 42).map (fun i => (i.zero, i.size, i.bytes)) = some (some (.agg #[.int .i64 0, .int .u64 0, .int .i64 0, .int .u64 0, .int .u64 0, .string ⟨#[]⟩, .bool false, .string ⟨#[]⟩, .int .i64 0, .int .u8 0]), 10, 96) := by kernel_rfl
set_option maxHeartbeats 4000000 in
set_option maxRecDepth 100000 in
theorem few13_any (es : List Le) (v : Value) (w : World) (hR : RowsAt Le.cs 10 w v es) (hf : ∀ e ∈ es, e.Fits) (hn : es.length ≤ maxLen) :
    Calls Try.prog 7 #[v] w fun r w' => ∃ a c ks, r = .returned (.slice a ks.length c) ∧ Lr w (.slice a ks.length c) ks w' ∧ Right ks := by
  obtain ⟨la, lc, rfl⟩ := hR.form
  unfold maxLen at hn
  have HR := hide hR
  have HF := hide hf
  have HC := hide (fun (o : Ob) (h : 0 ≤ o.tm.c) v => rcheckOp_any o h v)
  have HO := hide (fun (o : Ob) v => refOp_any o v)
  have I0 : Hid (Lr w (.slice (some ⟨w.heap.size, 0, none⟩) 0 0) [] (w.alloc (.cells #[] 42))) := OwnR.made (Below.refl _ w)
  clear hR hf
  go_enter Try.func7, Try.ntmps7
  go_wp2_with fail
  go_loopw [3, 4] (fun v3 v4 wr => ∃ (i : Nat) (a : Option Addr) (c : Nat) (ks : List Le), v4 = .int .i64 i ∧ v3 = .slice a ks.length c ∧ i ≤ es.length ∧ ks.length ≤ 60 ∧ Hid (Lr w (.slice a ks.length c) ks wr ∧ ∀ e ∈ ks, e.Fits ∧ e.op.chk = 0)) (fun v3 v4 _ => es.length - (intOf v4).toNat)
  case atStart => exact ⟨0, _, _, [], rfl, rfl, Nat.zero_le _, by decide, I0.out, fun e he => by cases he⟩
  case round =>
    obtain ⟨i, a, c, ks, rfl, rfl, hi, hks, HI⟩ := hrel
    clear I0
    by_cases hgo : i < es.length ∧ ks.length < 60
    · obtain ⟨hil, hk60⟩ := hgo
      obtain ⟨x, hx⟩ : ∃ x, es[i]? = some x := ⟨_, List.getElem?_eq_getElem hil⟩
      obtain ⟨g, off, hla, _, hlc, hgl, hrg⟩ := HR.out.at (fun e => by rw [e] at hx; cases hx)
      subst hla
      obtain ⟨d0, d1, d2, d3, d4, d5, d6, d7, d8, d9⟩ := cells10l (rangeAt_below (hrg i x hx) hgl (HI.out.1.below.mono (Nat.le_refl _)))
      have hxf := HF.out x (List.mem_of_getElem? hx)
      have HX := hide (And.intro hxf (And.intro hgl (hrg i x hx)))
      have HCx := hide (fun v => HC.out x.op hxf.tm.c0 v)
      have HOx := hide (fun v => HO.out x.op v)
      have h0 : (0 : Int) ≤ i := by omega
      have hiI : (i : Int) < es.length := by omega
      have hkI : (ks.length : Int) < 60 := by omega
      have hcI : (es.length : Int) ≤ lc := by omega
      clear hx hgl hrg hxf
      obtain ⟨ch, hch⟩ : ∃ ch, ch = x.op.chk := ⟨_, rfl⟩
      rw [← hch] at HCx
      unfold Ob.v at HCx HOx
      have HCH := hide hch
      clear hch
      go_upto_region 5 with fail
      go_upto_if 24 with (first
        | (go_at_call 16; refine (HOx.out _).mono ?_; rintro r w5 ⟨rfl, k5⟩; clear HOx)
        | (go_at_call 21; refine (HCx.out _).mono ?_; rintro r w6 ⟨rfl, k6⟩; clear HCx))
      have K6 := hide (k5.trans (k6.mono k5.size))
      have HI6 := hide (HI.out.1.step K6.out)
      have hgw := Nat.lt_of_lt_of_le HX.out.2.1 HI.out.1.below.size
      by_cases hz : ch = 0
      · have HRG := hide (rangeAt_below HX.out.2.2 HX.out.2.1 HI6.out.below)
        obtain ⟨f0, f1, f2, f3, f4, f5, f6, f7, f8, f9⟩ := cells10l HRG.out
        have hxr : x.op.chk = 0 := by rw [← HCH.out]; exact hz
        have HXR := hide (And.intro HX.out.1 hxr)
        clear hxr d0 d1 d2 d3 d4 d5 d6 d7 d8 d9 k5 k6 K6
        have hk1 : ks.length ≤ 100000 := by omega
        go_wp2_with (refine OwnR.append (P := Try.prog) (tt := 42) HI6.out x Le.cs_length (le_one x) (by decide) infoLe3 rfl hk1 (by decide) rfl _ _ 22 Try.underlying22 rfl rfl rfl ?_; intro a1 c1 w8 hown; have HO8 := hide hown; clear hown)
        go_roundw
        case rel =>
          refine ⟨i + 1, a1, c1, ks ++ [x], by simp, by simp, by omega, by rw [List.length_append]; simp; omega, by rw [List.length_append]; exact HO8.out, fun e he => ?_⟩
          rcases List.mem_append.1 he with he | he
          · exact HI.out.2 e he
          · rw [List.mem_singleton.1 he]; exact HXR.out
        case measure => simp [intOf]; omega
      · clear d0 d1 d2 d3 d4 d5 d6 d7 d8 d9 k5 k6
        go_wp2_with fail
        go_roundw
        case rel => exact ⟨i + 1, a, c, ks, by simp, rfl, by omega, hks, HI6.out, HI.out.2⟩
        case measure => simp [intOf]; omega
    · have hend : ¬ ((i : Int) < es.length ∧ (ks.length : Int) < 60) := fun h => hgo ⟨by omega, by omega⟩
      by_cases hil : (i : Int) < es.length
      · have hk60 : ¬ (ks.length : Int) < 60 := fun h => hend ⟨hil, h⟩
        clear hend hgo
        go_wp2_with fail
        go_ret
        exact ⟨_, _, ks, rfl, HI.out.1, HI.out.2, hks⟩
      · clear hend hgo
        go_wp2_with fail
        go_ret
        exact ⟨_, _, ks, rfl, HI.out.1, HI.out.2, hks⟩
end Go.Proofs.Ytknnamanbeckeaa
