/- Several texts in one: NodeSignsOk. -/
import Derived.Test.YtcdmdpafkiljdaaDoorSignsOne
/- The walk of NodeSigns where the node is signed. -/
namespace Go.Nod
open Go.RowKit Go.Wire Go.Opn
theorem sg_cut {w : World} {pv : Value} {ps : List ByteArray} (h : StrRow.Reads w pv ps) (h8 : ps.length ≤ 8) : cut9 pv = pv := by
  obtain ⟨a, c, rfl⟩ := h.form
  show Value.slice a (min ps.length 9) c = _
  rw [Nat.min_eq_left (by omega)]
theorem sg_take {ps : List ByteArray} (h : ps.length ≤ 8) : ps.take 9 = ps := List.take_of_length_le (by omega)
theorem Ns.tag {S : TypeId} {w0 w : World} {g h : Nat} {cs ds es : Array Value} {px : Value} {xs : List ByteArray} (i : Ns S w0 g h cs ds es px xs w) (hh : g + 1 < h) (h0 : w0.heap.size ≤ g + 1) (hS : S ≠ 9) (j : Nat) (v : Value) (ds' : Array Value) (e : ds.setIfInBounds j v = ds') : Ns S w0 g h cs ds' es px xs (w.setCell ⟨g + 1, j, none⟩ v) := by
  refine ⟨(Below.heap_setCell _ ⟨g + 1, j, none⟩ v g (by show g ≠ g + 1; omega)).trans i.row, by rw [heap_setCell_same _ _ _ _ _ _ i.row2, e], (Below.heap_setCell _ ⟨g + 1, j, none⟩ v h (by show h ≠ g + 1; omega)).trans i.row3, ⟨i.own.1, ?_⟩, i.below.setCell (p := ⟨g + 1, j, none⟩) h0 v⟩
  rcases i.own.2 with h1 | ⟨k, cap, cur, h1, h2, h3, h4⟩
  · exact .inl h1
  · refine .inr ⟨k, cap, cur, h1, h2, (Below.heap_setCell _ ⟨g + 1, j, none⟩ v k (fun e => ?_)).trans h3, h4⟩
    have e : k = g + 1 := e
    subst e
    rw [i.row2] at h3
    simp only [Option.some.injEq, Obj.cells.injEq] at h3
    exact hS h3.2.1
end Go.Nod
namespace Go.Proofs.YtcdmdpafkiljdaaDoor
open Go.RowKit Go.Wire Go.Stamp Go.Opn Go.Nod
attribute [local go_sem] Oper.semAt_some
set_option maxRecDepth 100000 in
set_option maxHeartbeats 16000000 in
theorem nodeSigns_ok (n m : Nd) (T : ByteArray) (ra qa : Option Addr) (rc qc : Nat) (key : Int) (K : Nat) (RM : Bool) (w : World) (_ : K ≤ 15) (hkey : bits .and .i64 key 15 = (K : Int)) (hau : 0 ≤ n.au ∧ n.au < K)
    (HSi : Hid (∀ v w', Below w.heap.size w w' → Mac.RingAt w' v (Mac.keysOf sgSeed K) → Calls Tryd.prog 5 #[v, n.v (.slice qa n.ps.length qc)] w' fun e w2 => ∃ px, e = .returned (.tuple #[(Nd.mk n.au n.ps n.op T).v px, .int .i64 0]) ∧ w2.ownsRow w'.heap.size 9 1 px n.ps.length (n.ps.map Value.string) ∧ Below w'.heap.size w' w2))
    (HF : Hid (∀ w', Below w.heap.size w w' → Calls Tryd.prog 8 #[(Nd.mk n.au n.ps n.op sgTag).v (.slice qa n.ps.length qc)] w' fun e w2 => e = .returned ((Nd.mk n.au n.ps n.op sgTag).v (.slice qa n.ps.length qc)) ∧ Below w'.heap.size w' w2))
    (HG : Hid (∀ w', Below w.heap.size w w' → Calls Tryd.prog 7 #[(Nd.mk n.au n.ps n.op sgTag).v (.slice qa n.ps.length qc)] w' fun e w2 => e = .returned (.int .i64 0) ∧ Below w'.heap.size w' w2))
    (HA : Hid (∀ w', Below w.heap.size w w' → Calls Tryd.prog 9 #[] w' fun e w2 => e = .returned (.bool true) ∧ Below w'.heap.size w' w2))
    (HRg : Hid (∀ w', Below w.heap.size w w' → Calls Tryd.prog 6 #[.string ⟨#[115, 101, 101, 100]⟩, .int .i64 (K : Int)] w' fun e w2 => ∃ v, e = .returned v ∧ Mac.RingAt w2 v (Mac.keysOf sgSeed K) ∧ Below w'.heap.size w' w2))
    (HRA : Hid (∀ w', Below w.heap.size w w' → Calls Tryd.prog 6 #[.string ⟨#[115, 101, 101, 100]⟩, .int .i64 n.au] w' fun e w2 => ∃ v, e = .returned v ∧ Mac.RingAt w2 v (Mac.keysOf sgSeed n.au.toNat) ∧ Below w'.heap.size w' w2))
    (HRN : Hid (∀ w', Below w.heap.size w w' → Calls Tryd.prog 8 #[n.v (.slice qa n.ps.length qc)] w' fun e w2 => e = .returned (n.v (.slice qa n.ps.length qc)) ∧ Below w'.heap.size w' w2))
    (HTN : Hid (∀ w', Below w.heap.size w w' → Calls Tryd.prog 10 #[.string ⟨#[115, 101, 101, 100]⟩, n.v (.slice qa n.ps.length qc)] w' fun e w2 => e = .returned (.string T) ∧ Below w'.heap.size w' w2))
    (HGX : Hid (∀ v px w', Below w.heap.size w w' → Mac.RingAt w' v (Mac.keysOf sgSeed K) → StrRow.Reads w' px n.ps → Calls Tryd.prog 11 #[v, (Nd.mk n.au n.ps n.op T).v px] w' fun e w2 => e = .returned (.bool true) ∧ Below w'.heap.size w' w2))
    (HGA : Hid (∀ v px w', Below w.heap.size w w' → Mac.RingAt w' v (Mac.keysOf sgSeed n.au.toNat) → StrRow.Reads w' px n.ps → Calls Tryd.prog 11 #[v, (Nd.mk n.au n.ps n.op T).v px] w' fun e w2 => e = .returned (.bool false) ∧ Below w'.heap.size w' w2))
    (HGM : Hid (∀ v w', Below w.heap.size w w' → Mac.RingAt w' v (Mac.keysOf sgSeed K) → Calls Tryd.prog 11 #[v, (Nd.mk m.au m.ps m.op T).v (.slice ra m.ps.length rc)] w' fun e w2 => e = .returned (.bool RM) ∧ Below w'.heap.size w' w2))
    (H15 : ((∃ (Cm : Int) (qm : Value), (Cm == 0) = false ∧ RM = false ∧ Hid (∀ w', Below w.heap.size w w' → Calls Tryd.prog 8 #[(Nd.mk m.au m.ps m.op T).v (.slice ra m.ps.length rc)] w' fun e w2 => e = .returned ((Nd.mk m.au (m.ps.take 9) m.op T).v qm) ∧ Below w'.heap.size w' w2) ∧ Hid (∀ w', Below w.heap.size w w' → Calls Tryd.prog 7 #[(Nd.mk m.au (m.ps.take 9) m.op T).v qm] w' fun e w2 => e = .returned (.int .i64 Cm) ∧ Below w'.heap.size w' w2)) ∨
      (Hid (∀ w', Below w.heap.size w w' → Calls Tryd.prog 8 #[(Nd.mk m.au m.ps m.op T).v (.slice ra m.ps.length rc)] w' fun e w2 => e = .returned ((Nd.mk m.au m.ps m.op T).v (.slice ra m.ps.length rc)) ∧ Below w'.heap.size w' w2) ∧ Hid (∀ w', Below w.heap.size w w' → Calls Tryd.prog 7 #[(Nd.mk m.au m.ps m.op T).v (.slice ra m.ps.length rc)] w' fun e w2 => e = .returned (.int .i64 0) ∧ Below w'.heap.size w' w2) ∧ 0 ≤ m.au ∧
        (((K : Int) ≤ m.au ∧ RM = false) ∨ (m.au < K ∧ ∃ TM : ByteArray, Hid (∀ w', Below w.heap.size w w' → Calls Tryd.prog 10 #[.string ⟨#[115, 101, 101, 100]⟩, (Nd.mk m.au m.ps m.op T).v (.slice ra m.ps.length rc)] w' fun e w2 => e = .returned (.string TM) ∧ Below w'.heap.size w' w2) ∧ (TM.toList == T.toList) = RM))))) :
    Calls Tryd.prog 3 #[n.v (.slice qa n.ps.length qc), m.v (.slice ra m.ps.length rc), .int .i64 key] w fun e w' => e = .returned (.bool true) ∧ Below w.heap.size w w' := by
  have HI := hide (Bn2.new w (n.cs (.slice qa n.ps.length qc)) (m.cs (.slice ra m.ps.length rc)) 29)
  generalize Mac.keysOf sgSeed K = KS at *
  generalize Mac.keysOf sgSeed n.au.toNat = KA at *
  obtain ⟨au, ps, ⟨kd, ⟨c, k⟩, th, p, nm, d, g, z⟩, tg⟩ := n
  obtain ⟨au', ps', ⟨kd', ⟨c', k'⟩, th', p', nm', d', g', z'⟩, tg'⟩ := m
  unfold Nd.v Nd.cs at *
  dsimp only at *
  go_enter Tryd.func3, Tryd.ntmps3
  go_upto_region 2 with fail
  go_cut [8, 9] (fun v8 v9 wx => ∃ (h : Nat) (xa : Option Addr) (xq : Nat), v8 = .pointer (some ⟨h, 0, none⟩) ∧ v9 = .int .i64 0 ∧ Hid (w.heap.size + 1 < h ∧ Ns 29 w w.heap.size h ((Nd.mk au ps ⟨kd, ⟨c, k⟩, th, p, nm, d, g, z⟩ tg).cs (.slice qa ps.length qc)) ((Nd.mk au' ps' ⟨kd', ⟨c', k'⟩, th', p', nm', d', g', z'⟩ tg').cs (.slice ra ps'.length rc)) ((Nd.mk au ps ⟨kd, ⟨c, k⟩, th, p, nm, d, g, z⟩ T).cs (.slice xa ps.length xq)) (.slice xa ps.length xq) ps wx))
  case first =>
    generalize (w.alloc (.cells _ 29)).alloc (.cells _ 29) = W at *
    refine RegionOwn.regionKF 8 112 6 (.int .i64 0) (fun j => match j with
        | 0 => RegionOwn.val (.int .i64 K)
        | 1 => RegionOwn.fact (fun x v => Mac.RingAt x v KS)
        | 2 => RegionOwn.val (.agg #[.int .i64 au, .slice qa ps.length qc, .int .i64 kd, .int .u64 c, .int .i64 k, .int .u64 th, .int .u64 p, .string nm, .bool d, .string g, .int .i64 z, .string tg])
        | 3 => RegionOwn.fact (fun x v => ∃ xa xq, v = .tuple #[.agg #[.int .i64 au, .slice xa ps.length xq, .int .i64 kd, .int .u64 c, .int .i64 k, .int .u64 th, .int .u64 p, .string nm, .bool d, .string g, .int .i64 z, .string T], .int .i64 0] ∧ x.ownsRow w.heap.size 9 1 (.slice xa ps.length xq) ps.length (ps.map Value.string))
        | 4 => RegionOwn.fact (fun x v => ∃ xa xq, v = .tuple #[.agg #[.int .i64 au, .slice xa ps.length xq, .int .i64 kd, .int .u64 c, .int .i64 k, .int .u64 th, .int .u64 p, .string nm, .bool d, .string g, .int .i64 z, .string T], .int .i64 0] ∧ x.ownsRow w.heap.size 9 1 (.slice xa ps.length xq) ps.length (ps.map Value.string))
        | 5 => RegionOwn.fact (fun x v => ∃ xa xq, v = .agg #[.int .i64 au, .slice xa ps.length xq, .int .i64 kd, .int .u64 c, .int .i64 k, .int .u64 th, .int .u64 p, .string nm, .bool d, .string g, .int .i64 z, .string T] ∧ x.ownsRow w.heap.size 9 1 (.slice xa ps.length xq) ps.length (ps.map Value.string))
        | 6 => RegionOwn.val (.int .i64 0)
        | 7 => RegionOwn.fact (fun x v => ∃ h, v = .pointer (some ⟨h, 0, none⟩) ∧ w.heap.size + 1 < h ∧ x.heap[h]? = some (.cells #[.int .i64 0, .slice none 0 0, .int .i64 0, .int .u64 0, .int .i64 0, .int .u64 0, .int .u64 0, .string ⟨#[]⟩, .bool false, .string ⟨#[]⟩, .int .i64 0, .string ⟨#[]⟩] 29 (0, 0)))
        | _ => RegionOwn.val undef) ?_ rfl (by kernel_rfl) rfl (by kernel_rfl) ?_ (fun _ _ _ h => h) ?_ ?_ ?_
    · intro j hj
      match j, hj with
      | 0, _ | 1, _ | 2, _ | 3, _ | 4, _ | 5, _ | 6, _ | 7, _ => rfl
      | j + 8, h => exact absurd h (by omega)
    · intro j p hj h
      match j, hj, h with
      | 0, _, h | 2, _, h | 6, _, h => cases h
      | 1, _, h => cases h; exact fun x y v h hb => h.below hb (Nat.le_refl _)
      | 3, _, h | 4, _, h | 5, _, h => cases h; exact fun x y v ⟨xa, xq, e1, e2⟩ hb => ⟨xa, xq, e1, nd_own_below e2 hb⟩
      | 7, _, h => cases h; exact fun x y v ⟨h, e1, e2, e3⟩ hb => ⟨h, e1, e2, kept_block e3 hb⟩
      | j + 8, h, _ => exact absurd h (by omega)
    · intro o ho y x hfr hbx hD
      cases ho
      obtain ⟨xa, xq, q, _⟩ : ∃ xa xq, RegionOwn.T y 15 = .tuple #[.agg #[.int .i64 au, .slice xa ps.length xq, .int .i64 kd, .int .u64 c, .int .i64 k, .int .u64 th, .int .u64 p, .string nm, .bool d, .string g, .int .i64 z, .string T], .int .i64 0] ∧ x.ownsRow w.heap.size 9 1 (.slice xa ps.length xq) ps.length (ps.map Value.string) := hD 4 15 (by decide) rfl (by kernel_rfl)
      refine .inl ⟨rfl, fun w' => ?_⟩
      clear hD hfr
      unfold RegionOwn.T at q
      go_simp
    · intro j hj hjf y x hfr hbx hD K' hK
      have e3 : RegionOwn.T y 3 = .pointer (some ⟨w.heap.size, 0, none⟩) := hfr.at (by kernel_rfl) rfl
      have e7 : RegionOwn.T y 7 = .int .i64 K := hfr.at (by kernel_rfl) rfl
      have hI := HI.out.step hbx
      match j, hj with
        | 0, _ =>
          refine RegionOwn.quiet rfl rfl hK rfl rfl ?_
          clear hK hD hfr
          unfold RegionOwn.T at e7
          go_simp
        | 1, _ =>
          have q : RegionOwn.T y 16 = .int .i64 K := hD 0 16 (by decide) rfl (by kernel_rfl)
          refine RegionOwn.calledG (f := 6) (args := #[.string ⟨#[115, 101, 101, 100]⟩, .int .i64 K]) rfl rfl hK rfl ?_ ((HRg.out x hI.below).mono fun e w' ⟨v', he, hr, hb⟩ => ⟨_, he, hb, hr⟩)
          clear hK hD hfr
          unfold RegionOwn.T at q
          go_simp
        | 2, _ =>
          refine RegionOwn.quiet rfl rfl hK rfl rfl ?_
          obtain ⟨c0, c1, c2, c3, c4, c5, c6, c7, c8, c9, c10, c11⟩ := cells12 (n := (Nd.mk au ps ⟨kd, ⟨c, k⟩, th, p, nm, d, g, z⟩ tg)) hI.row
          clear hK hD hfr
          unfold RegionOwn.T at e3
          go_simp
        | 3, _ =>
          have q1 : Mac.RingAt x (RegionOwn.T y 17) KS := hD 1 17 (by decide) rfl (by kernel_rfl)
          have q2 : RegionOwn.T y 18 = .agg #[.int .i64 au, .slice qa ps.length qc, .int .i64 kd, .int .u64 c, .int .i64 k, .int .u64 th, .int .u64 p, .string nm, .bool d, .string g, .int .i64 z, .string tg] := hD 2 18 (by decide) rfl (by kernel_rfl)
          refine RegionOwn.calledG (f := 5) (args := #[y.tmps.getD 17 undef, .agg #[.int .i64 au, .slice qa ps.length qc, .int .i64 kd, .int .u64 c, .int .i64 k, .int .u64 th, .int .u64 p, .string nm, .bool d, .string g, .int .i64 z, .string tg]]) rfl rfl hK rfl ?_ ((HSi.out _ x hI.below q1).mono fun e w' ⟨px, he, hr, hb⟩ => ?_)
          · clear hK hD hfr
            unfold RegionOwn.T at q2
            go_simp
          · obtain ⟨xa, xq, rfl⟩ := own_slice hr
            exact ⟨_, he, hb, xa, xq, rfl, nd_own_mono hr hI.below.size⟩
        | 4, _ =>
          obtain ⟨xa, xq, q, hr⟩ : ∃ xa xq, RegionOwn.T y 19 = .tuple #[.agg #[.int .i64 au, .slice xa ps.length xq, .int .i64 kd, .int .u64 c, .int .i64 k, .int .u64 th, .int .u64 p, .string nm, .bool d, .string g, .int .i64 z, .string T], .int .i64 0] ∧ x.ownsRow w.heap.size 9 1 (.slice xa ps.length xq) ps.length (ps.map Value.string) := hD 3 19 (by decide) rfl (by kernel_rfl)
          refine RegionOwn.quiet rfl rfl hK rfl ⟨xa, xq, rfl, hr⟩ ?_
          clear hK hD hfr
          unfold RegionOwn.T at q
          go_simp
        | 5, _ =>
          obtain ⟨xa, xq, q, hr⟩ : ∃ xa xq, RegionOwn.T y 15 = .tuple #[.agg #[.int .i64 au, .slice xa ps.length xq, .int .i64 kd, .int .u64 c, .int .i64 k, .int .u64 th, .int .u64 p, .string nm, .bool d, .string g, .int .i64 z, .string T], .int .i64 0] ∧ x.ownsRow w.heap.size 9 1 (.slice xa ps.length xq) ps.length (ps.map Value.string) := hD 4 15 (by decide) rfl (by kernel_rfl)
          refine RegionOwn.quiet rfl rfl hK rfl ⟨xa, xq, rfl, hr⟩ ?_
          clear hK hD hfr
          unfold RegionOwn.T at q
          go_simp
        | 6, _ => exact absurd rfl hjf
        | 7, _ =>
          refine RegionOwn.made (v := .pointer (some ⟨x.heap.size, 0, none⟩)) (ob := .cells #[.int .i64 0, .slice none 0 0, .int .i64 0, .int .u64 0, .int .i64 0, .int .u64 0, .int .u64 0, .string ⟨#[]⟩, .bool false, .string ⟨#[]⟩, .int .i64 0, .string ⟨#[]⟩] 29) rfl rfl hK ⟨_, rfl, row_lt hI.row2, heap_alloc_new _ _⟩ (fun g hg => by cases hg) ?_
          clear hK hD hfr
          go_simp
        | j + 8, h => exact absurd h (by omega)
    · intro y x hfr hbx hD
      obtain ⟨xa, xq, q5, hr⟩ : ∃ xa xq, RegionOwn.T y 20 = .agg #[.int .i64 au, .slice xa ps.length xq, .int .i64 kd, .int .u64 c, .int .i64 k, .int .u64 th, .int .u64 p, .string nm, .bool d, .string g, .int .i64 z, .string T] ∧ x.ownsRow w.heap.size 9 1 (.slice xa ps.length xq) ps.length (ps.map Value.string) := hD 5 20 (by decide) rfl
      have q6 : RegionOwn.T y 21 = .int .i64 0 := hD 6 21 (by decide) rfl
      obtain ⟨h, q7, hh, hrow⟩ : ∃ h, RegionOwn.T y 8 = .pointer (some ⟨h, 0, none⟩) ∧ w.heap.size + 1 < h ∧ x.heap[h]? = some (.cells #[.int .i64 0, .slice none 0 0, .int .i64 0, .int .u64 0, .int .i64 0, .int .u64 0, .int .u64 0, .string ⟨#[]⟩, .bool false, .string ⟨#[]⟩, .int .i64 0, .string ⟨#[]⟩] 29 (0, 0)) := hD 7 8 (by decide) rfl
      have hys := hfr.sets [16, 17, 18, 19, 15, 20, 21, 8] (by kernel_rfl)
      simp only [RegionOwn.setAll, List.foldl_cons, List.foldl_nil] at hys
      have hI := HI.out.step hbx
      clear hD hfr
      generalize RegionOwn.T y 16 = u16 at *
      generalize RegionOwn.T y 17 = u17 at *
      generalize RegionOwn.T y 18 = u18 at *
      generalize RegionOwn.T y 19 = u19 at *
      generalize RegionOwn.T y 15 = u15 at *
      generalize RegionOwn.T y 20 = u20 at *
      generalize RegionOwn.T y 21 = u21 at *
      generalize RegionOwn.T y 8 = u8 at *
      subst hys q5 q6 q7
      simp only [List.drop_succ_cons, List.drop_zero, List.setIfInBounds_toArray, List.set_cons_succ, List.set_cons_zero]
      have J := hide (Ns.start hI hrow hh hr #[.int .i64 au, .slice xa ps.length xq, .int .i64 kd, .int .u64 c, .int .i64 k, .int .u64 th, .int .u64 p, .string nm, .bool d, .string g, .int .i64 z, .string T] (Nat.le_refl _) (by decide))
      clear hI hr hbx HI
      go_wp2_with (refine wpList_store_row rfl 29 _ _ rfl _ _ rfl rfl 29 _ hrow infoNode rfl (by simp [Value.oneCell']) ?_)
      go_meet
      exact ⟨h, xa, xq, rfl, rfl, hh, J.out⟩
  obtain ⟨h, xa, xq, rfl, rfl, HJ⟩ := hcut
  have J := hide HJ.out.2
  have hh := HJ.out.1
  have HH := hide hh
  clear HJ HSi HI hh
  dsimp only [Nd.cs] at J
  go_upto_region 3 with fail
  refine wp_region_lit ?_
  refine wpList_load_row rfl 29 _ rfl _ rfl _ _ _ _ J.out.row Tryd.underlying29 rfl infoNode ?_
  simp only [Act.put, List.setIfInBounds_toArray, List.set_cons_succ, List.set_cons_zero]
  go_upto_region 4 with (refine wpList_store_row rfl 29 _ _ rfl _ _ rfl rfl 29 _ (heap_alloc_new wc (.cells #[.int .i64 0, .slice none 0 0, .int .i64 0, .int .u64 0, .int .i64 0, .int .u64 0, .int .u64 0, .string ⟨#[]⟩, .bool false, .string ⟨#[]⟩, .int .i64 0, .string ⟨#[]⟩] 29)) infoNode rfl (by simp [Value.oneCell']) ?_)
  have Y := hide (ny_start wc #[.int .i64 0, .slice none 0 0, .int .i64 0, .int .u64 0, .int .i64 0, .int .u64 0, .int .u64 0, .string ⟨#[]⟩, .bool false, .string ⟨#[]⟩, .int .i64 0, .string ⟨#[]⟩] ((Nd.mk au ps ⟨kd, ⟨c, k⟩, th, p, nm, d, g, z⟩ tg).cs (.slice qa ps.length qc)) 29)
  dsimp only [Nd.cs] at Y
  have b11 : ((wc.alloc (.cells #[.int .i64 0, .slice none 0 0, .int .i64 0, .int .u64 0, .int .i64 0, .int .u64 0, .int .u64 0, .string ⟨#[]⟩, .bool false, .string ⟨#[]⟩, .int .i64 0, .string ⟨#[]⟩] 29)).setRow wc.heap.size ((Nd.mk au ps ⟨kd, ⟨c, k⟩, th, p, nm, d, g, z⟩ tg).cs (.slice qa ps.length qc))).cell? ⟨wc.heap.size, 11, none⟩ = some (.string tg) := cell_of_row _ _ _ _ _ _ Y.out.1
  have f11 : ((wc.alloc (.cells #[.int .i64 0, .slice none 0 0, .int .i64 0, .int .u64 0, .int .i64 0, .int .u64 0, .int .u64 0, .string ⟨#[]⟩, .bool false, .string ⟨#[]⟩, .int .i64 0, .string ⟨#[]⟩] 29)).setRow wc.heap.size ((Nd.mk au ps ⟨kd, ⟨c, k⟩, th, p, nm, d, g, z⟩ tg).cs (.slice qa ps.length qc))).frozen? ⟨wc.heap.size, 11, none⟩ = false := frozen_of_row _ _ _ _ _ Y.out.1
  dsimp only [Nd.cs] at b11 f11
  generalize (wc.alloc (.cells _ 29)).setRow wc.heap.size _ = V at *
  go_upto_region 5 with fail
  have Y2 := hide (ny_set Y.out 11 (.string sgTag) ((Nd.mk au ps ⟨kd, ⟨c, k⟩, th, p, nm, d, g, z⟩ sgTag).cs (.slice qa ps.length qc)) rfl)
  clear b11 f11 Y
  replace J := hide (J.out.step Y2.out.2)
  have Y3 := hide Y2.out.1
  clear Y2
  unfold sgTag at *
  dsimp only [Nd.cs] at Y3 J
  generalize V.setCell ⟨wc.heap.size, 11, none⟩ _ = V2 at *
  generalize wc.heap.size = y at *
  go_upto_region 8 with (first
    | (refine wpList_load_row rfl 29 _ rfl _ rfl _ _ _ _ Y3.out Tryd.underlying29 rfl infoNode ?_)
    | (go_at_call 8; refine (HF.out _ J.out.below).mono ?_; clear HF; rintro e w3 ⟨rfl, k3⟩; replace J := hide (J.out.step k3); clear k3 Y3)
    | (go_at_call 7; refine (HG.out _ J.out.below).mono ?_; clear HG; rintro e w4 ⟨rfl, k4⟩; replace J := hide (J.out.step k4); clear k4)
    | (go_at_call 9; refine (HA.out _ J.out.below).mono ?_; rintro e w5 ⟨rfl, k5⟩; replace J := hide (J.out.step k5); clear k5))
  have c0 : w5.cell? ⟨w.heap.size, 0, none⟩ = some (.int .i64 au) := (cells12 (n := (Nd.mk au ps ⟨kd, ⟨c, k⟩, th, p, nm, d, g, z⟩ tg)) J.out.row).1
  have h1 : ¬ au < 0 := by omega
  have h2 : ¬ (K : Int) ≤ au := by omega
  have h3 : au < K := hau.2
  go_upto_region 12 with fail
  clear c0
  refine RegionOwn.regionK 16 112 9 1 (fun i => match i with
    | 0 => RegionOwn.val (.int .i64 0)
    | 1 => RegionOwn.val (.bool false)
    | 2 => RegionOwn.val (.bool false)
    | 3 => RegionOwn.val (.pointer (some ⟨h, 11, none⟩))
    | 4 => RegionOwn.val (.string T)
    | 5 => RegionOwn.val (.agg #[.int .i64 au, .slice qa ps.length qc, .int .i64 kd, .int .u64 c, .int .i64 k, .int .u64 th, .int .u64 p, .string nm, .bool d, .string g, .int .i64 z, .string tg])
    | 6 => RegionOwn.val (.agg #[.int .i64 au, .slice qa ps.length qc, .int .i64 kd, .int .u64 c, .int .i64 k, .int .u64 th, .int .u64 p, .string nm, .bool d, .string g, .int .i64 z, .string tg])
    | 7 => RegionOwn.val (.string T)
    | 8 => RegionOwn.val (.bool false)
    | 9 => RegionOwn.val (.bool false)
    | 10 => RegionOwn.val (.bool false)
    | 11 => RegionOwn.val (.int .i64 K)
    | 12 => RegionOwn.fact (fun x v => Mac.RingAt x v KS)
    | 13 => RegionOwn.val (.agg #[.int .i64 au, .slice xa ps.length xq, .int .i64 kd, .int .u64 c, .int .i64 k, .int .u64 th, .int .u64 p, .string nm, .bool d, .string g, .int .i64 z, .string T])
    | 14 => RegionOwn.val (.bool true)
    | 15 => RegionOwn.val (.bool false)
    | _ => RegionOwn.val undef) (fun _ => none) ?_ (by kernel_rfl) rfl (by kernel_rfl) ?_ ?_ ?_
  · intro i hi
    match i, hi with
    | 0, _ | 1, _ | 2, _ | 3, _ | 4, _ | 5, _ | 6, _ | 7, _ | 8, _ | 9, _ | 10, _ | 11, _ | 12, _ | 13, _ | 14, _ | 15, _ => rfl
    | i + 16, h => exact absurd h (by omega)
  · intro i p hi h
    refine ⟨fun _ _ => rfl, ?_⟩
    match i, hi, h with
    | 0, _, h | 1, _, h | 2, _, h | 3, _, h | 4, _, h | 5, _, h | 6, _, h | 7, _, h | 8, _, h | 9, _, h | 10, _, h | 11, _, h | 13, _, h | 14, _, h | 15, _, h => cases h
    | 12, _, h => cases h; exact fun x y v h hb => h.below hb (Nat.le_refl _)
    | i + 16, h, _ => exact absurd h (by omega)
  · intro i hi y x' hfr hbx hD hO K2 hK2
    match i, hi with
    | 0, _ =>
      have e9 : RegionOwn.T y 9 = .int .i64 0 := RegionOwn.Fr.at hfr (by kernel_rfl) rfl
      refine RegionOwn.quietG rfl rfl hK2 rfl rfl ?_
      clear hK2 hD hfr hO
      unfold RegionOwn.T at e9
      go_simp
    | 1, _ =>
      have d0 : RegionOwn.T y 55 = .int .i64 0 := hD 0 55 (by decide) rfl (by kernel_rfl) (.inl rfl)
      refine RegionOwn.quietG rfl rfl hK2 rfl rfl ?_
      clear hK2 hD hfr hO
      unfold RegionOwn.T at d0
      go_simp
    | 2, _ =>
      have d1 : RegionOwn.T y 56 = .bool false := hD 1 56 (by decide) rfl (by kernel_rfl) (.inl rfl)
      refine RegionOwn.quietG rfl rfl hK2 rfl rfl ?_
      clear hK2 hD hfr hO
      unfold RegionOwn.T at d1
      go_simp
    | 3, _ =>
      have e8 : RegionOwn.T y 8 = .pointer (some ⟨h, 0, none⟩) := RegionOwn.Fr.at hfr (by kernel_rfl) rfl
      have hg : RegionOwn.T y 57 = .bool false := hD 2 57 (by decide) rfl (by kernel_rfl) (.inl rfl)
      refine RegionOwn.quietG rfl (RegionOwn.wanted_of (j := 2) (d := 57) (want := false) rfl rfl hg) hK2 rfl rfl ?_
      clear hK2 hD hfr hO hg
      unfold RegionOwn.T at e8
      go_simp
    | 4, _ =>
      have d3 : RegionOwn.T y 58 = .pointer (some ⟨h, 11, none⟩) := hD 3 58 (by decide) rfl (by kernel_rfl) (.inl rfl)
      have hg : RegionOwn.T y 57 = .bool false := hD 2 57 (by decide) rfl (by kernel_rfl) (.inl rfl)
      obtain ⟨c0, c1, c2, c3, c4, c5, c6, c7, c8, c9, c10, c11⟩ := cells12 (n := (Nd.mk au ps ⟨kd, ⟨c, k⟩, th, p, nm, d, g, z⟩ T)) (J.out.step hbx).row3
      refine RegionOwn.quietG rfl (RegionOwn.wanted_of (j := 2) (d := 57) (want := false) rfl rfl hg) hK2 rfl rfl ?_
      clear hK2 hD hfr hO hg
      unfold RegionOwn.T at d3
      go_simp
    | 5, _ =>
      have e3 : RegionOwn.T y 3 = .pointer (some ⟨w.heap.size, 0, none⟩) := RegionOwn.Fr.at hfr (by kernel_rfl) rfl
      have hg : RegionOwn.T y 57 = .bool false := hD 2 57 (by decide) rfl (by kernel_rfl) (.inl rfl)
      obtain ⟨c0, c1, c2, c3, c4, c5, c6, c7, c8, c9, c10, c11⟩ := cells12 (n := (Nd.mk au ps ⟨kd, ⟨c, k⟩, th, p, nm, d, g, z⟩ tg)) (J.out.step hbx).row
      refine RegionOwn.quietG rfl (RegionOwn.wanted_of (j := 2) (d := 57) (want := false) rfl rfl hg) hK2 rfl rfl ?_
      clear hK2 hD hfr hO hg
      unfold RegionOwn.T at e3
      go_simp
    | 6, _ =>
      have d5 : RegionOwn.T y 60 = .agg #[.int .i64 au, .slice qa ps.length qc, .int .i64 kd, .int .u64 c, .int .i64 k, .int .u64 th, .int .u64 p, .string nm, .bool d, .string g, .int .i64 z, .string tg] := hD 5 60 (by decide) rfl (by kernel_rfl) (.inl rfl)
      have hg : RegionOwn.T y 57 = .bool false := hD 2 57 (by decide) rfl (by kernel_rfl) (.inl rfl)
      refine RegionOwn.calledG (f := 8) (args := #[.agg #[.int .i64 au, .slice qa ps.length qc, .int .i64 kd, .int .u64 c, .int .i64 k, .int .u64 th, .int .u64 p, .string nm, .bool d, .string g, .int .i64 z, .string tg]]) rfl (RegionOwn.wanted_of (j := 2) (d := 57) (want := false) rfl rfl hg) hK2 rfl ?_ ((HRN.out x' (J.out.step hbx).below).mono fun e y' h => ⟨_, h.1, h.2, rfl⟩)
      clear hK2 hD hfr hO hg
      unfold RegionOwn.T at d5
      go_simp
    | 7, _ =>
      have d6 : RegionOwn.T y 61 = .agg #[.int .i64 au, .slice qa ps.length qc, .int .i64 kd, .int .u64 c, .int .i64 k, .int .u64 th, .int .u64 p, .string nm, .bool d, .string g, .int .i64 z, .string tg] := hD 6 61 (by decide) rfl (by kernel_rfl) (.inl rfl)
      have hg : RegionOwn.T y 57 = .bool false := hD 2 57 (by decide) rfl (by kernel_rfl) (.inl rfl)
      refine RegionOwn.calledG (f := 10) (args := #[.string ⟨#[115, 101, 101, 100]⟩, .agg #[.int .i64 au, .slice qa ps.length qc, .int .i64 kd, .int .u64 c, .int .i64 k, .int .u64 th, .int .u64 p, .string nm, .bool d, .string g, .int .i64 z, .string tg]]) rfl (RegionOwn.wanted_of (j := 2) (d := 57) (want := false) rfl rfl hg) hK2 rfl ?_ ((HTN.out x' (J.out.step hbx).below).mono fun e y' h => ⟨_, h.1, h.2, rfl⟩)
      clear hK2 hD hfr hO hg
      unfold RegionOwn.T at d6
      go_simp
    | 8, _ =>
      have d4 : RegionOwn.T y 59 = .string T := hD 4 59 (by decide) rfl (by kernel_rfl) (.inl rfl)
      have d7 : RegionOwn.T y 62 = .string T := hD 7 62 (by decide) rfl (by kernel_rfl) (.inl rfl)
      have hg : RegionOwn.T y 57 = .bool false := hD 2 57 (by decide) rfl (by kernel_rfl) (.inl rfl)
      refine RegionOwn.quietG rfl (RegionOwn.wanted_of (j := 2) (d := 57) (want := false) rfl rfl hg) hK2 rfl rfl ?_
      clear hK2 hD hfr hO hg
      unfold RegionOwn.T at d4 d7
      go_simp
    | 9, _ =>
      have d2 : RegionOwn.T y 57 = .bool false := hD 2 57 (by decide) rfl (by kernel_rfl) (.inl rfl)
      have d8 : RegionOwn.T y 63 = .bool false := hD 8 63 (by decide) rfl (by kernel_rfl) (.inl rfl)
      refine RegionOwn.quietG rfl rfl hK2 rfl rfl ?_
      clear hK2 hD hfr hO
      unfold RegionOwn.T at d2 d8
      go_simp
    | 10, _ =>
      have d9 : RegionOwn.T y 64 = .bool false := hD 9 64 (by decide) rfl (by kernel_rfl) (.inl rfl)
      refine RegionOwn.quietG rfl rfl hK2 rfl rfl ?_
      clear hK2 hD hfr hO
      unfold RegionOwn.T at d9
      go_simp
    | 11, _ =>
      have e7 : RegionOwn.T y 7 = .int .i64 K := RegionOwn.Fr.at hfr (by kernel_rfl) rfl
      have hg : RegionOwn.T y 65 = .bool false := hD 10 65 (by decide) rfl (by kernel_rfl) (.inl rfl)
      refine RegionOwn.quietG rfl (RegionOwn.wanted_of (j := 10) (d := 65) (want := false) rfl rfl hg) hK2 rfl rfl ?_
      clear hK2 hD hfr hO hg
      unfold RegionOwn.T at e7
      go_simp
    | 12, _ =>
      have d11 : RegionOwn.T y 66 = .int .i64 K := hD 11 66 (by decide) rfl (by kernel_rfl) (.inl rfl)
      have hg : RegionOwn.T y 65 = .bool false := hD 10 65 (by decide) rfl (by kernel_rfl) (.inl rfl)
      refine RegionOwn.calledG (f := 6) (args := #[.string ⟨#[115, 101, 101, 100]⟩, .int .i64 K]) rfl (RegionOwn.wanted_of (j := 10) (d := 65) (want := false) rfl rfl hg) hK2 rfl ?_ ((HRg.out x' (J.out.step hbx).below).mono fun e y' h => let ⟨v', g1, g2, g3⟩ := h; ⟨v', g1, g3, g2⟩)
      clear hK2 hD hfr hO hg
      unfold RegionOwn.T at d11
      go_simp
    | 13, _ =>
      have e8 : RegionOwn.T y 8 = .pointer (some ⟨h, 0, none⟩) := RegionOwn.Fr.at hfr (by kernel_rfl) rfl
      have hg : RegionOwn.T y 65 = .bool false := hD 10 65 (by decide) rfl (by kernel_rfl) (.inl rfl)
      obtain ⟨c0, c1, c2, c3, c4, c5, c6, c7, c8, c9, c10, c11⟩ := cells12 (n := (Nd.mk au ps ⟨kd, ⟨c, k⟩, th, p, nm, d, g, z⟩ T)) (J.out.step hbx).row3
      refine RegionOwn.quietG rfl (RegionOwn.wanted_of (j := 10) (d := 65) (want := false) rfl rfl hg) hK2 rfl rfl ?_
      clear hK2 hD hfr hO hg
      unfold RegionOwn.T at e8
      go_simp
    | 14, _ =>
      have q12 := hD 12 67 (by decide) rfl (by kernel_rfl) (.inl rfl)
      have d13 : RegionOwn.T y 68 = .agg #[.int .i64 au, .slice xa ps.length xq, .int .i64 kd, .int .u64 c, .int .i64 k, .int .u64 th, .int .u64 p, .string nm, .bool d, .string g, .int .i64 z, .string T] := hD 13 68 (by decide) rfl (by kernel_rfl) (.inl rfl)
      have hg : RegionOwn.T y 65 = .bool false := hD 10 65 (by decide) rfl (by kernel_rfl) (.inl rfl)
      refine RegionOwn.calledG (f := 11) (args := #[y.tmps.getD 67 undef, .agg #[.int .i64 au, .slice xa ps.length xq, .int .i64 kd, .int .u64 c, .int .i64 k, .int .u64 th, .int .u64 p, .string nm, .bool d, .string g, .int .i64 z, .string T]]) rfl (RegionOwn.wanted_of (j := 10) (d := 65) (want := false) rfl rfl hg) hK2 rfl ?_ ((HGX.out _ _ x' (J.out.step hbx).below q12 (J.out.step hbx).reads).mono fun e y' h => ⟨_, h.1, h.2, rfl⟩)
      clear hK2 hD hfr hO hg
      unfold RegionOwn.T at d13
      go_simp
    | 15, _ =>
      have d14 : RegionOwn.T y 69 = .bool true := hD 14 69 (by decide) rfl (by kernel_rfl) (.inl rfl)
      have hg : RegionOwn.T y 65 = .bool false := hD 10 65 (by decide) rfl (by kernel_rfl) (.inl rfl)
      refine RegionOwn.quietG rfl (RegionOwn.wanted_of (j := 10) (d := 65) (want := false) rfl rfl hg) hK2 rfl rfl ?_
      clear hK2 hD hfr hO hg
      unfold RegionOwn.T at d14
      go_simp
    | i + 16, h => exact absurd h (by omega)
  · intro y x' hfr hbx hD
    have q65 : RegionOwn.T y 65 = .bool false := hD 10 65 (by decide) rfl (fun _ _ h => by cases h)
    have q70 : RegionOwn.T y 70 = .bool false := hD 15 70 (by decide) rfl (fun _ _ h => by cases h)
    have hys := hfr.sets [55, 56, 57, 58, 59, 60, 61, 62, 63, 64, 65, 66, 67, 68, 69, 70] (by kernel_rfl)
    simp only [RegionOwn.setAll, List.foldl_cons, List.foldl_nil] at hys
    replace J := hide (J.out.step hbx)
    clear hD hfr hbx
    generalize RegionOwn.T y 55 = u55 at *
    generalize RegionOwn.T y 56 = u56 at *
    generalize RegionOwn.T y 57 = u57 at *
    generalize RegionOwn.T y 58 = u58 at *
    generalize RegionOwn.T y 59 = u59 at *
    generalize RegionOwn.T y 60 = u60 at *
    generalize RegionOwn.T y 61 = u61 at *
    generalize RegionOwn.T y 62 = u62 at *
    generalize RegionOwn.T y 63 = u63 at *
    generalize RegionOwn.T y 64 = u64 at *
    generalize RegionOwn.T y 65 = u65 at *
    generalize RegionOwn.T y 66 = u66 at *
    generalize RegionOwn.T y 67 = u67 at *
    generalize RegionOwn.T y 68 = u68 at *
    generalize RegionOwn.T y 69 = u69 at *
    generalize RegionOwn.T y 70 = u70 at *
    subst hys q65 q70
    simp only [List.drop_succ_cons, List.drop_zero, List.setIfInBounds_toArray, List.set_cons_succ, List.set_cons_zero]
    have x11 : x'.cell? ⟨h, 11, none⟩ = some (.string T) := (cells12 (n := (Nd.mk au ps ⟨kd, ⟨c, k⟩, th, p, nm, d, g, z⟩ T)) J.out.row3).2.2.2.2.2.2.2.2.2.2.2
    have m11 : x'.cell? ⟨w.heap.size + 1, 11, none⟩ = some (.string tg') := (cells12 (n := (Nd.mk au' ps' ⟨kd', ⟨c', k'⟩, th', p', nm', d', g', z'⟩ tg')) J.out.row2).2.2.2.2.2.2.2.2.2.2.2
    have f11 : x'.frozen? ⟨w.heap.size + 1, 11, none⟩ = false := frozen_of_row _ _ _ _ _ J.out.row2
    go_upto_region 15 with fail
    replace J := hide (J.out.tag HH.out (Nat.le_succ _) (by decide) 11 (.string T) ((Nd.mk au' ps' ⟨kd', ⟨c', k'⟩, th', p', nm', d', g', z'⟩ T).cs (.slice ra ps'.length rc)) rfl)
    dsimp only [Nd.cs] at J
    clear x11 m11 f11
    generalize x'.setCell ⟨w.heap.size + 1, 11, none⟩ (.string T) = V3 at *
    go_cut [12] (fun v wx => v = .bool RM ∧ Hid (Ns 29 w w.heap.size h #[.int .i64 au, .slice qa ps.length qc, .int .i64 kd, .int .u64 c, .int .i64 k, .int .u64 th, .int .u64 p, .string nm, .bool d, .string g, .int .i64 z, .string tg] #[.int .i64 au', .slice ra ps'.length rc, .int .i64 kd', .int .u64 c', .int .i64 k', .int .u64 th', .int .u64 p', .string nm', .bool d', .string g', .int .i64 z', .string T] #[.int .i64 au, .slice xa ps.length xq, .int .i64 kd, .int .u64 c, .int .i64 k, .int .u64 th, .int .u64 p, .string nm, .bool d, .string g, .int .i64 z, .string T] (.slice xa ps.length xq) ps wx))
    case first =>
      clear HRN HTN HGX HGA HGM HRg HRA HA
      have m0 := cell_regrown (cells12 (n := (Nd.mk au' ps' ⟨kd', ⟨c', k'⟩, th', p', nm', d', g', z'⟩ T)) J.out.row2).1
      have m11 := cell_regrown (cells12 (n := (Nd.mk au' ps' ⟨kd', ⟨c', k'⟩, th', p', nm', d', g', z'⟩ T)) J.out.row2).2.2.2.2.2.2.2.2.2.2.2
      dsimp only at m0 m11
      rcases H15 with ⟨Cm, qm, hCm, rfl, HRm, HCm⟩ | ⟨HRm, HCm, hm0, ⟨hmK, rfl⟩ | ⟨hmK, TM, HTm, hTM⟩⟩
      · refine QuietCalls.region (by kernel_rfl) (by kernel_rfl) ?_
        refine QuietCalls.load rfl 29 _ rfl _ rfl _ _ _ _ J.out.row2 Tryd.underlying29 rfl infoNode ?_; simp only [Act.put, List.setIfInBounds_toArray, List.set_cons_succ, List.set_cons_zero]
        refine QuietCalls.call1 rfl rfl Tryd.call8 (fun w k => HRm.out w (J.out.step k).below) rfl ?_; simp only [Act.put, List.setIfInBounds_toArray, List.set_cons_succ, List.set_cons_zero]
        refine QuietCalls.call1 rfl rfl Tryd.call7 (fun w k => HCm.out w (J.out.step k).below) rfl ?_; simp only [Act.put, List.setIfInBounds_toArray, List.set_cons_succ, List.set_cons_zero]
        iterate 21 (first | go_big_quiet_step (fail) | quiet_step (fail))
        refine wpQuiet_nil ?_
        intro w8 k8
        go_wp2_with fail
        go_meet
        exact ⟨rfl, J.out.step k8⟩
      · have hm1 : ¬ au' < K := by omega
        have hm2 : decide (au' < (K : Int)) = false := decide_eq_false hm1
        have hm3 : decide ((0 : Int) ≤ au') = true := decide_eq_true hm0
        refine QuietCalls.region (by kernel_rfl) (by kernel_rfl) ?_
        refine QuietCalls.load rfl 29 _ rfl _ rfl _ _ _ _ J.out.row2 Tryd.underlying29 rfl infoNode ?_; simp only [Act.put, List.setIfInBounds_toArray, List.set_cons_succ, List.set_cons_zero]
        refine QuietCalls.call1 rfl rfl Tryd.call8 (fun w k => HRm.out w (J.out.step k).below) rfl ?_; simp only [Act.put, List.setIfInBounds_toArray, List.set_cons_succ, List.set_cons_zero]
        refine QuietCalls.call1 rfl rfl Tryd.call7 (fun w k => HCm.out w (J.out.step k).below) rfl ?_; simp only [Act.put, List.setIfInBounds_toArray, List.set_cons_succ, List.set_cons_zero]
        iterate 21 (first | go_big_quiet_step (fail) | quiet_step (fail))
        refine wpQuiet_nil ?_
        intro w8 k8
        go_wp2_with fail
        go_meet
        exact ⟨rfl, J.out.step k8⟩
      · have hm2 : decide (au' < (K : Int)) = true := decide_eq_true hmK
        have hm3 : decide ((0 : Int) ≤ au') = true := decide_eq_true hm0
        refine QuietCalls.region (by kernel_rfl) (by kernel_rfl) ?_
        refine QuietCalls.load rfl 29 _ rfl _ rfl _ _ _ _ J.out.row2 Tryd.underlying29 rfl infoNode ?_; simp only [Act.put, List.setIfInBounds_toArray, List.set_cons_succ, List.set_cons_zero]
        refine QuietCalls.call1 rfl rfl Tryd.call8 (fun w k => HRm.out w (J.out.step k).below) rfl ?_; simp only [Act.put, List.setIfInBounds_toArray, List.set_cons_succ, List.set_cons_zero]
        refine QuietCalls.call1 rfl rfl Tryd.call7 (fun w k => HCm.out w (J.out.step k).below) rfl ?_; simp only [Act.put, List.setIfInBounds_toArray, List.set_cons_succ, List.set_cons_zero]
        iterate 13 (first | go_big_quiet_step (fail) | quiet_step (fail))
        refine QuietCalls.load rfl 29 _ rfl _ rfl _ _ _ _ J.out.row2 Tryd.underlying29 rfl infoNode ?_; simp only [Act.put, List.setIfInBounds_toArray, List.set_cons_succ, List.set_cons_zero]
        refine QuietCalls.call1 rfl rfl Tryd.call8 (fun w k => HRm.out w (J.out.step k).below) rfl ?_; simp only [Act.put, List.setIfInBounds_toArray, List.set_cons_succ, List.set_cons_zero]
        refine QuietCalls.call2 rfl rfl Tryd.call10 (fun w k => HTm.out w (J.out.step k).below) rfl rfl ?_; simp only [Act.put, List.setIfInBounds_toArray, List.set_cons_succ, List.set_cons_zero]
        iterate 5 (first | go_big_quiet_step (fail) | quiet_step (fail))
        refine wpQuiet_nil ?_
        intro w8 k8
        go_wp2_with fail
        go_meet
        exact ⟨rfl, J.out.step k8⟩
    obtain ⟨rfl, J3⟩ := hcut
    clear J H15
    have J : Hid _ := J3.out
    clear J3
    go_upto_region 16 with fail
    refine RegionOwn.regionK 14 112 9 1 (fun i => match i with
      | 0 => RegionOwn.val (.int .i64 K)
      | 1 => RegionOwn.fact (fun x v => Mac.RingAt x v KS)
      | 2 => RegionOwn.val (.agg #[.int .i64 au', .slice ra ps'.length rc, .int .i64 kd', .int .u64 c', .int .i64 k', .int .u64 th', .int .u64 p', .string nm', .bool d', .string g', .int .i64 z', .string T])
      | 3 => RegionOwn.val (.bool RM)
      | 4 => RegionOwn.val (.bool RM)
      | 5 => RegionOwn.val (.bool true)
      | 6 => RegionOwn.val (.bool true)
      | 7 => RegionOwn.val (.pointer (some ⟨w.heap.size, 0, none⟩))
      | 8 => RegionOwn.val (.int .i64 au)
      | 9 => RegionOwn.fact (fun x v => Mac.RingAt x v KA)
      | 10 => RegionOwn.val (.agg #[.int .i64 au, .slice xa ps.length xq, .int .i64 kd, .int .u64 c, .int .i64 k, .int .u64 th, .int .u64 p, .string nm, .bool d, .string g, .int .i64 z, .string T])
      | 11 => RegionOwn.val (.bool false)
      | 12 => RegionOwn.val (.bool true)
      | 13 => RegionOwn.val (.bool true)
      | _ => RegionOwn.val undef) (fun _ => none) ?_ (by kernel_rfl) rfl (by kernel_rfl) ?_ ?_ ?_
    · intro i hi
      match i, hi with
      | 0, _ | 1, _ | 2, _ | 3, _ | 4, _ | 5, _ | 6, _ | 7, _ | 8, _ | 9, _ | 10, _ | 11, _ | 12, _ | 13, _ => rfl
      | i + 14, h => exact absurd h (by omega)
    · intro i p hi h
      refine ⟨fun _ _ => rfl, ?_⟩
      match i, hi, h with
      | 0, _, h | 2, _, h | 3, _, h | 4, _, h | 5, _, h | 6, _, h | 7, _, h | 8, _, h | 10, _, h | 11, _, h | 12, _, h | 13, _, h => cases h
      | 1, _, h => cases h; exact fun x y v h hb => h.below hb (Nat.le_refl _)
      | 9, _, h => cases h; exact fun x y v h hb => h.below hb (Nat.le_refl _)
      | i + 14, h, _ => exact absurd h (by omega)
    · intro i hi y x' hfr hbx hD hO K2 hK2
      match i, hi with
      | 0, _ =>
        have e7 : RegionOwn.T y 7 = .int .i64 K := RegionOwn.Fr.at hfr (by kernel_rfl) rfl
        refine RegionOwn.quietG rfl rfl hK2 rfl rfl ?_
        clear hK2 hD hfr hO
        unfold RegionOwn.T at e7
        go_simp
      | 1, _ =>
        have d0 : RegionOwn.T y 98 = .int .i64 K := hD 0 98 (by decide) rfl (by kernel_rfl) (.inl rfl)
        refine RegionOwn.calledG (f := 6) (args := #[.string ⟨#[115, 101, 101, 100]⟩, .int .i64 K]) rfl rfl hK2 rfl ?_ ((HRg.out x' (J.out.step hbx).below).mono fun e y' h => let ⟨v', g1, g2, g3⟩ := h; ⟨v', g1, g3, g2⟩)
        clear hK2 hD hfr hO
        unfold RegionOwn.T at d0
        go_simp
      | 2, _ =>
        have e4 : RegionOwn.T y 4 = .pointer (some ⟨w.heap.size + 1, 0, none⟩) := RegionOwn.Fr.at hfr (by kernel_rfl) rfl
        obtain ⟨c0, c1, c2, c3, c4, c5, c6, c7, c8, c9, c10, c11⟩ := cells12 (n := (Nd.mk au' ps' ⟨kd', ⟨c', k'⟩, th', p', nm', d', g', z'⟩ T)) (J.out.step hbx).row2
        refine RegionOwn.quietG rfl rfl hK2 rfl rfl ?_
        clear hK2 hD hfr hO
        unfold RegionOwn.T at e4
        go_simp
      | 3, _ =>
        have q1 := hD 1 99 (by decide) rfl (by kernel_rfl) (.inl rfl)
        have d2 : RegionOwn.T y 100 = .agg #[.int .i64 au', .slice ra ps'.length rc, .int .i64 kd', .int .u64 c', .int .i64 k', .int .u64 th', .int .u64 p', .string nm', .bool d', .string g', .int .i64 z', .string T] := hD 2 100 (by decide) rfl (by kernel_rfl) (.inl rfl)
        refine RegionOwn.calledG (f := 11) (args := #[y.tmps.getD 99 undef, .agg #[.int .i64 au', .slice ra ps'.length rc, .int .i64 kd', .int .u64 c', .int .i64 k', .int .u64 th', .int .u64 p', .string nm', .bool d', .string g', .int .i64 z', .string T]]) rfl rfl hK2 rfl ?_ ((HGM.out _ x' (J.out.step hbx).below q1).mono fun e y' h => ⟨_, h.1, h.2, rfl⟩)
        clear hK2 hD hfr hO
        unfold RegionOwn.T at d2
        go_simp
      | 4, _ =>
        have e12 : RegionOwn.T y 12 = .bool RM := RegionOwn.Fr.at hfr (by kernel_rfl) rfl
        refine RegionOwn.quietG rfl rfl hK2 rfl rfl ?_
        clear hK2 hD hfr hO
        unfold RegionOwn.T at e12
        go_simp
      | 5, _ =>
        have d3 : RegionOwn.T y 101 = .bool RM := hD 3 101 (by decide) rfl (by kernel_rfl) (.inl rfl)
        have d4 : RegionOwn.T y 102 = .bool RM := hD 4 102 (by decide) rfl (by kernel_rfl) (.inl rfl)
        refine RegionOwn.quietG rfl rfl hK2 rfl rfl ?_
        clear hK2 hD hfr hO
        unfold RegionOwn.T at d3 d4
        go_simp
      | 6, _ =>
        have d5 : RegionOwn.T y 103 = .bool true := hD 5 103 (by decide) rfl (by kernel_rfl) (.inl rfl)
        refine RegionOwn.quietG rfl rfl hK2 rfl rfl ?_
        clear hK2 hD hfr hO
        unfold RegionOwn.T at d5
        go_simp
      | 7, _ =>
        have e3 : RegionOwn.T y 3 = .pointer (some ⟨w.heap.size, 0, none⟩) := RegionOwn.Fr.at hfr (by kernel_rfl) rfl
        have hg : RegionOwn.T y 104 = .bool true := hD 6 104 (by decide) rfl (by kernel_rfl) (.inl rfl)
        refine RegionOwn.quietG rfl (RegionOwn.wanted_of (j := 6) (d := 104) (want := true) rfl rfl hg) hK2 rfl rfl ?_
        clear hK2 hD hfr hO hg
        unfold RegionOwn.T at e3
        go_simp
      | 8, _ =>
        have d7 : RegionOwn.T y 105 = .pointer (some ⟨w.heap.size, 0, none⟩) := hD 7 105 (by decide) rfl (by kernel_rfl) (.inl rfl)
        have hg : RegionOwn.T y 104 = .bool true := hD 6 104 (by decide) rfl (by kernel_rfl) (.inl rfl)
        obtain ⟨c0, c1, c2, c3, c4, c5, c6, c7, c8, c9, c10, c11⟩ := cells12 (n := (Nd.mk au ps ⟨kd, ⟨c, k⟩, th, p, nm, d, g, z⟩ tg)) (J.out.step hbx).row
        refine RegionOwn.quietG rfl (RegionOwn.wanted_of (j := 6) (d := 104) (want := true) rfl rfl hg) hK2 rfl rfl ?_
        clear hK2 hD hfr hO hg
        unfold RegionOwn.T at d7
        go_simp
      | 9, _ =>
        have d8 : RegionOwn.T y 106 = .int .i64 au := hD 8 106 (by decide) rfl (by kernel_rfl) (.inl rfl)
        have hg : RegionOwn.T y 104 = .bool true := hD 6 104 (by decide) rfl (by kernel_rfl) (.inl rfl)
        refine RegionOwn.calledG (f := 6) (args := #[.string ⟨#[115, 101, 101, 100]⟩, .int .i64 au]) rfl (RegionOwn.wanted_of (j := 6) (d := 104) (want := true) rfl rfl hg) hK2 rfl ?_ ((HRA.out x' (J.out.step hbx).below).mono fun e y' h => let ⟨v', g1, g2, g3⟩ := h; ⟨v', g1, g3, g2⟩)
        clear hK2 hD hfr hO hg
        unfold RegionOwn.T at d8
        go_simp
      | 10, _ =>
        have e8 : RegionOwn.T y 8 = .pointer (some ⟨h, 0, none⟩) := RegionOwn.Fr.at hfr (by kernel_rfl) rfl
        have hg : RegionOwn.T y 104 = .bool true := hD 6 104 (by decide) rfl (by kernel_rfl) (.inl rfl)
        obtain ⟨c0, c1, c2, c3, c4, c5, c6, c7, c8, c9, c10, c11⟩ := cells12 (n := (Nd.mk au ps ⟨kd, ⟨c, k⟩, th, p, nm, d, g, z⟩ T)) (J.out.step hbx).row3
        refine RegionOwn.quietG rfl (RegionOwn.wanted_of (j := 6) (d := 104) (want := true) rfl rfl hg) hK2 rfl rfl ?_
        clear hK2 hD hfr hO hg
        unfold RegionOwn.T at e8
        go_simp
      | 11, _ =>
        have q9 := hD 9 107 (by decide) rfl (by kernel_rfl) (.inl rfl)
        have d10 : RegionOwn.T y 108 = .agg #[.int .i64 au, .slice xa ps.length xq, .int .i64 kd, .int .u64 c, .int .i64 k, .int .u64 th, .int .u64 p, .string nm, .bool d, .string g, .int .i64 z, .string T] := hD 10 108 (by decide) rfl (by kernel_rfl) (.inl rfl)
        have hg : RegionOwn.T y 104 = .bool true := hD 6 104 (by decide) rfl (by kernel_rfl) (.inl rfl)
        refine RegionOwn.calledG (f := 11) (args := #[y.tmps.getD 107 undef, .agg #[.int .i64 au, .slice xa ps.length xq, .int .i64 kd, .int .u64 c, .int .i64 k, .int .u64 th, .int .u64 p, .string nm, .bool d, .string g, .int .i64 z, .string T]]) rfl (RegionOwn.wanted_of (j := 6) (d := 104) (want := true) rfl rfl hg) hK2 rfl ?_ ((HGA.out _ _ x' (J.out.step hbx).below q9 (J.out.step hbx).reads).mono fun e y' h => ⟨_, h.1, h.2, rfl⟩)
        clear hK2 hD hfr hO hg
        unfold RegionOwn.T at d10
        go_simp
      | 12, _ =>
        have d11 : RegionOwn.T y 109 = .bool false := hD 11 109 (by decide) rfl (by kernel_rfl) (.inl rfl)
        have hg : RegionOwn.T y 104 = .bool true := hD 6 104 (by decide) rfl (by kernel_rfl) (.inl rfl)
        refine RegionOwn.quietG rfl (RegionOwn.wanted_of (j := 6) (d := 104) (want := true) rfl rfl hg) hK2 rfl rfl ?_
        clear hK2 hD hfr hO hg
        unfold RegionOwn.T at d11
        go_simp
      | 13, _ =>
        have d6 : RegionOwn.T y 104 = .bool true := hD 6 104 (by decide) rfl (by kernel_rfl) (.inl rfl)
        have d12 : RegionOwn.T y 110 = .bool true := hD 12 110 (by decide) rfl (by kernel_rfl) (.inl rfl)
        refine RegionOwn.quietG rfl rfl hK2 rfl rfl ?_
        clear hK2 hD hfr hO
        unfold RegionOwn.T at d6 d12
        go_simp
      | i + 14, h => exact absurd h (by omega)
    · intro y x' hfr hbx hD
      have d13 : RegionOwn.T y 111 = .bool true := hD 13 111 (by decide) rfl (fun _ _ h => by cases h)
      have hsz := hfr.size
      have hdf := hfr.defers
      clear hD hfr
      refine RegionOwn.list_value (v := .bool true) (y := x') rfl ?_ ?_
      · unfold RegionOwn.T at d13
        go_simp
      · have H6 : Hid ((y.tmps.setIfInBounds 6 (.bool true))[6]? = some (.bool true)) := by
          show _ = _
          rw [Array.getElem?_setIfInBounds_self_of_lt (Nat.lt_of_lt_of_eq (show 6 < 112 by decide) (hsz.trans rfl).symm)]
        have HX := hide (J.out.step hbx).below
        clear d13 hbx J
        go_wp2_with fail
        refine bodyPost_ret (results_tmp Tryd.results3 _ _ _) rfl ⟨?_, HX.out⟩
        show Ending.returned ((y.tmps.setIfInBounds 6 (.bool true)).getD 6 undef) = _
        rw [Array.getD_eq_getD_getElem?, H6.out]
        rfl
end Go.Proofs.YtcdmdpafkiljdaaDoor
