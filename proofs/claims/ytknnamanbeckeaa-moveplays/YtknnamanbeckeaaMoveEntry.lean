/- Contracts: the law's operations, as the program and as the document have them. -/
import Derived.Test.YtknnamanbeckeaaMoveTw
import Derived.Test.YtknnamanbeckeaaOpRef
import Derived.Test.YtknnamanbeckeaaRegionAll
import Derived.Test.YtknnamanbeckeaaBytes
namespace Go.Mov
open Go.RowKit Go.Opn
/-- An operation of the law's: with one letter of a digest. -/
structure Le where
  op : Ob
  h : UInt8
def Le.cs (e : Le) : List Value := [.int .i64 e.op.kind, .int .u64 e.op.tm.c, .int .i64 e.op.tm.k, .int .u64 e.op.thing, .int .u64 e.op.par, .string e.op.name, .bool e.op.dir, .string e.op.dg, .int .i64 e.op.size, .int .u8 (e.h.toNat : Nat)]
def Le.v (e : Le) : Value := .agg #[.int .i64 e.op.kind, .int .u64 e.op.tm.c, .int .i64 e.op.tm.k, .int .u64 e.op.thing, .int .u64 e.op.par, .string e.op.name, .bool e.op.dir, .string e.op.dg, .int .i64 e.op.size, .int .u8 (e.h.toNat : Nat)]
def Le.en (e : Le) : En := ⟨e.op, ⟨#[e.h]⟩⟩
end Go.Mov
namespace Go.Proofs.Ytknnamanbeckeaa
open Go.RowKit Go.Opn Go.Stamp Go.MapInt Go.Mov Go.Shelf
attribute [local go_sem] Oper.semAt_some
theorem infoREn : (Try.prog.info? 36).map (·.size) = some 10 := by kernel_rfl
theorem uB : Try.prog.underlying 71 = some (.slice 5) := by kernel_rfl
theorem u5 : Try.prog.underlying 5 = some (.int .u8) := by kernel_rfl
theorem u9 : Try.prog.underlying 9 = some .string := by kernel_rfl
theorem conv1 (q : UInt8) (g : Nat) (W : World) (h : W.cell? ⟨g, 0, none⟩ = some (.int .u8 (q.toNat : Nat))) : (convert 71 9 (.slice (some ⟨g, 0, none⟩) 1 1)).run Try.prog W = .ok (.string ⟨#[q]⟩) W := by
  have hr := run_convert_bytes_back (P := Try.prog) W 71 9 5 ⟨g, 0, none⟩ 1 [q] uB u5 u9 (fun j hj => by
    obtain rfl : j = 0 := by simp at hj; omega
    exact h)
  exact hr
set_option maxHeartbeats 1000000 in
set_option maxRecDepth 100000 in
theorem entry_any (e : Le) (w : World) : Calls Try.prog 11 #[e.v] w fun r w' => r = .returned e.en.v ∧ Below w.heap.size w w' := by
  obtain ⟨⟨kd, ⟨tc, tk⟩, th, pa, nm, dr, dg, sz⟩, eh⟩ := e
  unfold Le.v Le.en En.v
  dsimp only
  have hcv := conv1 eh (w.heap.size + 1 + 1) (((w.alloc (.cells #[.int .i64 kd, .int .u64 tc, .int .i64 tk, .int .u64 th, .int .u64 pa, .string nm, .bool dr, .string dg, .int .i64 sz, .int .u8 (eh.toNat : Nat)] 42)).alloc (.cells #[.int .i64 0, .int .u64 0, .int .i64 0, .int .u64 0, .int .u64 0, .string ⟨#[]⟩, .bool false, .string ⟨#[]⟩, .int .i64 0, .string ⟨#[]⟩] 45)).alloc (.cells #[.int .u8 (eh.toNat : Nat)] 5)) (by
    have := (cell_of_row _ _ _ _ _ _ (heap_alloc_new ((w.alloc (.cells #[.int .i64 kd, .int .u64 tc, .int .i64 tk, .int .u64 th, .int .u64 pa, .string nm, .bool dr, .string dg, .int .i64 sz, .int .u8 (eh.toNat : Nat)] 42)).alloc (.cells #[.int .i64 0, .int .u64 0, .int .i64 0, .int .u64 0, .int .u64 0, .string ⟨#[]⟩, .bool false, .string ⟨#[]⟩, .int .i64 0, .string ⟨#[]⟩] 45)) (.cells #[.int .u8 (eh.toNat : Nat)] 5))).trans (rfl : (#[.int .u8 (eh.toNat : Nat)] : Array Value)[0]? = some (.int .u8 (eh.toNat : Nat)))
    simpa using this)
  go_enter Try.func11, Try.ntmps11
  go_wp2_with fail
  refine bodyPost_ret (results_cell_row Try.results11 _ _ (w.heap.size + 1) _ #[.int .i64 kd, .int .u64 tc, .int .i64 tk, .int .u64 th, .int .u64 pa, .string nm, .bool dr, .string dg, .int .i64 sz, .string ⟨#[eh]⟩] (0, 0) _ rfl ((heap_alloc_old _ _ (by simp)).trans (new_at (by simp) _)) Try.underlying45 rfl infoEn) rfl ?_
  exact ⟨rfl, (((Below.refl _ w).alloc (Nat.le_refl _) _).alloc (by simp) _).alloc (by simp; omega) _⟩
set_option maxHeartbeats 1000000 in
set_option maxRecDepth 100000 in
theorem refE_any (e : Le) (w : World) : Calls Try.prog 9 #[e.v] w fun r w' => r = .returned e.en.v ∧ Below w.heap.size w w' := by
  have HR := hide (fun v => refOp_any e.op v)
  obtain ⟨⟨kd, ⟨tc, tk⟩, th, pa, nm, dr, dg, sz⟩, eh⟩ := e
  unfold Ob.v at HR
  unfold Le.v Le.en En.v
  dsimp only at HR ⊢
  have HW : Hid (((w.alloc (.cells #[.int .i64 kd, .int .u64 tc, .int .i64 tk, .int .u64 th, .int .u64 pa, .string nm, .bool dr, .string dg, .int .i64 sz, .int .u8 (eh.toNat : Nat)] 42)).alloc (.cells #[.int .i64 0, .int .u64 0, .int .i64 0, .int .u64 0, .int .u64 0, .string ⟨#[]⟩, .bool false, .string ⟨#[]⟩, .int .i64 0, .string ⟨#[]⟩] 36)).heap[w.heap.size]? = some (.cells #[.int .i64 kd, .int .u64 tc, .int .i64 tk, .int .u64 th, .int .u64 pa, .string nm, .bool dr, .string dg, .int .i64 sz, .int .u8 (eh.toNat : Nat)] 42 (0, 0)) ∧ ((w.alloc (.cells #[.int .i64 kd, .int .u64 tc, .int .i64 tk, .int .u64 th, .int .u64 pa, .string nm, .bool dr, .string dg, .int .i64 sz, .int .u8 (eh.toNat : Nat)] 42)).alloc (.cells #[.int .i64 0, .int .u64 0, .int .i64 0, .int .u64 0, .int .u64 0, .string ⟨#[]⟩, .bool false, .string ⟨#[]⟩, .int .i64 0, .string ⟨#[]⟩] 36)).heap[w.heap.size + 1]? = some (.cells #[.int .i64 0, .int .u64 0, .int .i64 0, .int .u64 0, .int .u64 0, .string ⟨#[]⟩, .bool false, .string ⟨#[]⟩, .int .i64 0, .string ⟨#[]⟩] 36 (0, 0)) ∧ Below w.heap.size w ((w.alloc (.cells #[.int .i64 kd, .int .u64 tc, .int .i64 tk, .int .u64 th, .int .u64 pa, .string nm, .bool dr, .string dg, .int .i64 sz, .int .u8 (eh.toNat : Nat)] 42)).alloc (.cells #[.int .i64 0, .int .u64 0, .int .i64 0, .int .u64 0, .int .u64 0, .string ⟨#[]⟩, .bool false, .string ⟨#[]⟩, .int .i64 0, .string ⟨#[]⟩] 36))) := by
    exact ⟨(heap_alloc_old _ _ (by simp)).trans (heap_alloc_new _ _), new_at (by simp) _, ((Below.refl _ _).alloc (Nat.le_refl _) _).alloc (by simp) _⟩
  go_enter Try.func9, Try.ntmps9
  go_upto_region 1 with fail
  generalize (w.alloc (.cells #[.int .i64 kd, .int .u64 tc, .int .i64 tk, .int .u64 th, .int .u64 pa, .string nm, .bool dr, .string dg, .int .i64 sz, .int .u8 (eh.toNat : Nat)] 42)).alloc (.cells #[.int .i64 0, .int .u64 0, .int .i64 0, .int .u64 0, .int .u64 0, .string ⟨#[]⟩, .bool false, .string ⟨#[]⟩, .int .i64 0, .string ⟨#[]⟩] 36) = W at *
  obtain ⟨HW1, HW2, HW3⟩ : Hid (W.heap[w.heap.size]? = some (.cells #[.int .i64 kd, .int .u64 tc, .int .i64 tk, .int .u64 th, .int .u64 pa, .string nm, .bool dr, .string dg, .int .i64 sz, .int .u8 (eh.toNat : Nat)] 42 (0, 0))) ∧ Hid (W.heap[w.heap.size + 1]? = some (.cells #[.int .i64 0, .int .u64 0, .int .i64 0, .int .u64 0, .int .u64 0, .string ⟨#[]⟩, .bool false, .string ⟨#[]⟩, .int .i64 0, .string ⟨#[]⟩] 36 (0, 0))) ∧ Hid (Below w.heap.size w W) := HW.out
  clear HW
  refine RegionOwn.regionK 8 11 9 1 (fun i => match i with
    | 0 => RegionOwn.val (.pointer (some ⟨w.heap.size, 0, none⟩))
    | 1 => RegionOwn.val (.agg #[.int .i64 kd, .int .u64 tc, .int .i64 tk, .int .u64 th, .int .u64 pa, .string nm, .bool dr, .string dg, .int .i64 sz])
    | 2 => RegionOwn.val (.agg #[.int .i64 kd, .int .u64 tc, .int .i64 tk, .int .u64 th, .int .u64 pa, .string nm, .bool dr, .string dg, .int .i64 sz])
    | 3 => RegionOwn.val (.pointer (some ⟨w.heap.size, 9, none⟩))
    | 4 => RegionOwn.val (.int .u8 (eh.toNat : Nat))
    | 5 => RegionOwn.fact (fun x v => ∃ g, v = .slice (some ⟨g, 0, none⟩) 1 1 ∧ g < x.heap.size ∧ x.cell? ⟨g, 0, none⟩ = some (.int .u8 (eh.toNat : Nat)))
    | 6 => RegionOwn.val (.string ⟨#[eh]⟩)
    | 7 => RegionOwn.val (.agg #[.int .i64 kd, .int .u64 tc, .int .i64 tk, .int .u64 th, .int .u64 pa, .string nm, .bool dr, .string dg, .int .i64 sz, .string ⟨#[eh]⟩])
    | _ => RegionOwn.val undef) (fun _ => none) ?_ (by kernel_rfl) rfl (by kernel_rfl) ?_ ?_ ?_
  · intro i hi
    match i, hi with
    | 0, _ | 1, _ | 2, _ | 3, _ | 4, _ | 5, _ | 6, _ | 7, _ => rfl
    | i + 8, h => exact absurd h (by omega)
  · intro i p hi h
    refine ⟨fun _ _ => rfl, ?_⟩
    match i, hi, h with
    | 0, _, h | 1, _, h | 2, _, h | 3, _, h | 4, _, h | 6, _, h | 7, _, h => cases h
    | 5, _, h => cases h; exact fun x y v ⟨g, h1, h2, h3⟩ hb => ⟨g, h1, Nat.lt_of_lt_of_le h2 hb.size, (hb.cell (p := ⟨g, 0, none⟩) h2).trans h3⟩
    | i + 8, h, _ => exact absurd h (by omega)
  · intro i hi y x' hfr hbx hD hO K2 hK2
    have hblk : x'.heap[w.heap.size]? = some (.cells #[.int .i64 kd, .int .u64 tc, .int .i64 tk, .int .u64 th, .int .u64 pa, .string nm, .bool dr, .string dg, .int .i64 sz, .int .u8 (eh.toNat : Nat)] 42 (0, 0)) := (hbx.block _ (Array.getElem?_eq_some_iff.1 HW1.out).1).trans HW1.out
    match i, hi with
    | 0, _ =>
      refine RegionOwn.quiet rfl rfl hK2 rfl rfl ?_
      have e1 : RegionOwn.T y 1 = .pointer (some ⟨w.heap.size, 0, none⟩) := RegionOwn.Fr.at hfr (by kernel_rfl) rfl
      clear hK2 hD hfr hO hblk
      unfold RegionOwn.T at e1
      go_simp
    | 1, _ =>
      refine RegionOwn.quiet rfl rfl hK2 rfl rfl ?_
      have d0 : RegionOwn.T y 3 = .pointer (some ⟨w.heap.size, 0, none⟩) := hD 0 3 (by decide) rfl (by kernel_rfl) (.inl rfl)
      have c0 : x'.cell? ⟨w.heap.size, 0, none⟩ = some (.int .i64 kd) := (cell_of_row _ _ _ _ _ _ hblk).trans rfl
      have c1 : x'.cell? ⟨w.heap.size, 1, none⟩ = some (.int .u64 tc) := (cell_of_row _ _ _ _ _ _ hblk).trans rfl
      have c2 : x'.cell? ⟨w.heap.size, 2, none⟩ = some (.int .i64 tk) := (cell_of_row _ _ _ _ _ _ hblk).trans rfl
      have c3 : x'.cell? ⟨w.heap.size, 3, none⟩ = some (.int .u64 th) := (cell_of_row _ _ _ _ _ _ hblk).trans rfl
      have c4 : x'.cell? ⟨w.heap.size, 4, none⟩ = some (.int .u64 pa) := (cell_of_row _ _ _ _ _ _ hblk).trans rfl
      have c5 : x'.cell? ⟨w.heap.size, 5, none⟩ = some (.string nm) := (cell_of_row _ _ _ _ _ _ hblk).trans rfl
      have c6 : x'.cell? ⟨w.heap.size, 6, none⟩ = some (.bool dr) := (cell_of_row _ _ _ _ _ _ hblk).trans rfl
      have c7 : x'.cell? ⟨w.heap.size, 7, none⟩ = some (.string dg) := (cell_of_row _ _ _ _ _ _ hblk).trans rfl
      have c8 : x'.cell? ⟨w.heap.size, 8, none⟩ = some (.int .i64 sz) := (cell_of_row _ _ _ _ _ _ hblk).trans rfl
      clear hK2 hD hfr hO hblk
      unfold RegionOwn.T at d0
      go_simp
    | 2, _ =>
      have d1 : RegionOwn.T y 4 = .agg #[.int .i64 kd, .int .u64 tc, .int .i64 tk, .int .u64 th, .int .u64 pa, .string nm, .bool dr, .string dg, .int .i64 sz] := hD 1 4 (by decide) rfl (by kernel_rfl) (.inl rfl)
      refine RegionOwn.called (f := 16) (args := #[.agg #[.int .i64 kd, .int .u64 tc, .int .i64 tk, .int .u64 th, .int .u64 pa, .string nm, .bool dr, .string dg, .int .i64 sz]]) rfl rfl hK2 rfl ?_ ((HR.out x').mono fun e y' h => ⟨_, h.1, h.2, rfl⟩)
      clear hK2 hD hfr hO hblk
      unfold RegionOwn.T at d1
      go_simp
    | 3, _ =>
      refine RegionOwn.quiet rfl rfl hK2 rfl rfl ?_
      have e1 : RegionOwn.T y 1 = .pointer (some ⟨w.heap.size, 0, none⟩) := RegionOwn.Fr.at hfr (by kernel_rfl) rfl
      clear hK2 hD hfr hO hblk
      unfold RegionOwn.T at e1
      go_simp
    | 4, _ =>
      refine RegionOwn.quiet rfl rfl hK2 rfl rfl ?_
      have d3 : RegionOwn.T y 6 = .pointer (some ⟨w.heap.size, 9, none⟩) := hD 3 6 (by decide) rfl (by kernel_rfl) (.inl rfl)
      have c9 : x'.cell? ⟨w.heap.size, 9, none⟩ = some (.int .u8 (eh.toNat : Nat)) := (cell_of_row _ _ _ _ _ _ hblk).trans rfl
      clear hK2 hD hfr hO hblk
      unfold RegionOwn.T at d3
      go_simp
    | 5, _ =>
      have d4 : RegionOwn.T y 7 = .int .u8 (eh.toNat : Nat) := hD 4 7 (by decide) rfl (by kernel_rfl) (.inl rfl)
      refine RegionOwn.made (ob := .cells #[.int .u8 (eh.toNat : Nat)] 5) (v := .slice (some ⟨x'.heap.size, 0, none⟩) 1 1) rfl rfl hK2 ⟨x'.heap.size, rfl, by simp, by simp⟩ (fun g h => by simp [Value.ownBlock] at h; omega) ?_
      clear hK2 hD hfr hO hblk
      unfold RegionOwn.T at d4
      have d4' := d4
      rw [Array.getD_eq_getD_getElem?] at d4'
      go_simp
    | 6, _ =>
      have d5 : ∃ g, RegionOwn.T y 8 = .slice (some ⟨g, 0, none⟩) 1 1 ∧ g < x'.heap.size ∧ x'.cell? ⟨g, 0, none⟩ = some (.int .u8 (eh.toNat : Nat)) := hD 5 8 (by decide) rfl (by kernel_rfl) (.inl rfl)
      obtain ⟨g, hv, hlt, hcell⟩ := d5
      refine RegionOwn.quiet rfl rfl hK2 rfl rfl ?_
      have hr := conv1 eh g x' hcell
      clear hK2 hD hfr hO hblk
      unfold RegionOwn.T at hv
      go_simp
    | 7, _ =>
      have d2 : RegionOwn.T y 5 = .agg #[.int .i64 kd, .int .u64 tc, .int .i64 tk, .int .u64 th, .int .u64 pa, .string nm, .bool dr, .string dg, .int .i64 sz] := hD 2 5 (by decide) rfl (by kernel_rfl) (.inl rfl)
      have d6 : RegionOwn.T y 9 = .string ⟨#[eh]⟩ := hD 6 9 (by decide) rfl (by kernel_rfl) (.inl rfl)
      refine RegionOwn.quiet rfl rfl hK2 rfl rfl ?_
      clear hK2 hD hfr hO hblk
      unfold RegionOwn.T at d2 d6
      have d2' := d2
      have d6' := d6
      rw [Array.getD_eq_getD_getElem?] at d2' d6'
      go_simp
    | i + 8, h => exact absurd h (by omega)
  · intro y x' hfr hbx hD
    have d7 : RegionOwn.T y 10 = .agg #[.int .i64 kd, .int .u64 tc, .int .i64 tk, .int .u64 th, .int .u64 pa, .string nm, .bool dr, .string dg, .int .i64 sz, .string ⟨#[eh]⟩] := hD 7 10 (by decide) rfl (fun _ _ h => by cases h)
    have e2 : RegionOwn.T y 2 = .pointer (some ⟨w.heap.size + 1, 0, none⟩) := RegionOwn.Fr.at hfr (by kernel_rfl) rfl
    have hl11 : List.range 11 = [0, 1, 2, 3, 4, 5, 6, 7, 8, 9, 10] := by decide
    have hdf : y.defers = [] := hfr.defers
    have hb2 : x'.heap[w.heap.size + 1]? = some (.cells #[.int .i64 0, .int .u64 0, .int .i64 0, .int .u64 0, .int .u64 0, .string ⟨#[]⟩, .bool false, .string ⟨#[]⟩, .int .i64 0, .string ⟨#[]⟩] 36 (0, 0)) := (hbx.block _ (Array.getElem?_eq_some_iff.1 HW2.out).1).trans HW2.out
    rw [RegionOwn.act_lit y 11 (hfr.size.trans rfl), hl11, hdf]
    simp only [List.map_cons, List.map_nil, List.drop_succ_cons, List.drop_zero, d7, e2]
    clear hD hfr d7 e2 hl11 hdf HR
    have f0 : ∀ i, x'.frozen? ⟨w.heap.size + 1, i, none⟩ = false := fun i => frozen_of_row _ _ _ _ _ hb2
    have HB2 := hide (And.intro hb2 hbx)
    clear hb2 hbx
    clear f0
    go_wp2_with (refine wpList_store_row rfl 36 _ _ rfl _ _ rfl rfl 36 _ HB2.out.1 infoREn rfl (by simp [Value.oneCell']) ?_)
    refine bodyPost_ret (results_cell_row Try.results9 _ _ (w.heap.size + 1) _ #[.int .i64 kd, .int .u64 tc, .int .i64 tk, .int .u64 th, .int .u64 pa, .string nm, .bool dr, .string dg, .int .i64 sz, .string ⟨#[eh]⟩] (0, 0) _ rfl (setRow_heap _ _ _ _ _ _ HB2.out.1) Try.underlying36 rfl infoREn) rfl ?_
    exact ⟨rfl, below_setRow (HW3.out.trans (HB2.out.2.mono HW3.out.size)) (by omega) _⟩
end Go.Proofs.Ytknnamanbeckeaa
