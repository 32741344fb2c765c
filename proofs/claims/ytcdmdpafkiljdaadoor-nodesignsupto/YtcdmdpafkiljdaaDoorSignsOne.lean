/- Several texts in one: NodeSignsWalk. -/
import Derived.Test.YtcdmdpafkiljdaaDoorNodeThree
import Derived.Test.YtcdmdpafkiljdaaDoorNodeFour
import Derived.Test.YtcdmdpafkiljdaaDoorNodeFive
import Derived.Test.YtcdmdpafkiljdaaDoorNodeRefs
import Derived.Test.YtcdmdpafkiljdaaDoorRegionAll
/- The walk of NodeSigns. -/
namespace Go.Nod
open Go.RowKit Go.Wire Go.Opn
def sgSeed : ByteArray := ⟨#[115, 101, 101, 100]⟩
def sgTag : ByteArray := ⟨#[49, 50, 51, 52, 53, 54, 55, 56, 57, 48, 49, 50, 51, 52, 53, 54, 55, 56, 57, 48, 49, 50, 51, 52, 53, 54, 55, 56, 57, 48, 49, 50]⟩
/-- The two nodes that came in, the one that was signed, the row of its parents. -/
structure Ns (S : TypeId) (w0 : World) (g h : Nat) (cs ds es : Array Value) (px : Value) (xs : List ByteArray) (w : World) : Prop where
  row : w.heap[g]? = some (.cells cs S (0, 0))
  row2 : w.heap[g + 1]? = some (.cells ds S (0, 0))
  row3 : w.heap[h]? = some (.cells es S (0, 0))
  own : w.ownsRow w0.heap.size 9 1 px xs.length (xs.map Value.string)
  below : Below w0.heap.size w0 w
theorem Ns.step {S : TypeId} {w0 w w' : World} {g h : Nat} {cs ds es : Array Value} {px : Value} {xs : List ByteArray} (i : Ns S w0 g h cs ds es px xs w) (k : Below w.heap.size w w') : Ns S w0 g h cs ds es px xs w' :=
  ⟨kept_block i.row k, kept_block i.row2 k, kept_block i.row3 k, nd_own_below i.own k, i.below.trans (k.mono i.below.size)⟩
theorem Ns.reads {S : TypeId} {w0 w : World} {g h : Nat} {cs ds es : Array Value} {px : Value} {xs : List ByteArray} (i : Ns S w0 g h cs ds es px xs w) : StrRow.Reads w px xs := StrRow.Reads.of_own i.own
theorem ny_start (w : World) (zs ys : Array Value) (S : TypeId) : ((w.alloc (.cells zs S)).setRow w.heap.size ys).heap[w.heap.size]? = some (.cells ys S (0, 0)) ∧ Below w.heap.size w ((w.alloc (.cells zs S)).setRow w.heap.size ys) :=
  ⟨setRow_heap _ _ _ _ _ _ (heap_alloc_new _ _), ((Below.refl _ w).alloc (Nat.le_refl _) _).trans ⟨rfl, rfl, rfl, by simp, fun k hk => setRow_other _ _ _ _ (by omega)⟩⟩
theorem ny_set {w V : World} {ys : Array Value} {S : TypeId} (i : V.heap[w.heap.size]? = some (.cells ys S (0, 0)) ∧ Below w.heap.size w V) (j : Nat) (v : Value) (ys' : Array Value) (e : ys.setIfInBounds j v = ys') : (V.setCell ⟨w.heap.size, j, none⟩ v).heap[w.heap.size]? = some (.cells ys' S (0, 0)) ∧ Below w.heap.size w (V.setCell ⟨w.heap.size, j, none⟩ v) :=
  ⟨by rw [heap_setCell_same _ _ _ _ _ _ i.1, e], i.2.setCell (p := ⟨w.heap.size, j, none⟩) (Nat.le_refl _) v⟩
theorem Ns.start {S : TypeId} {w0 w : World} {g h : Nat} {cs ds zs : Array Value} {px : Value} {xs : List ByteArray} (i : Bn2 w0 g cs ds S w) (hz : w.heap[h]? = some (.cells zs S (0, 0))) (hh : g + 1 < h) (hr : w.ownsRow w0.heap.size 9 1 px xs.length (xs.map Value.string)) (es : Array Value) (hg : w0.heap.size ≤ g) (hS : S ≠ 9) : Ns S w0 g h cs ds es px xs (w.setRow h es) := by
  refine ⟨(setRow_other _ _ _ _ (by omega)).trans i.row, (setRow_other _ _ _ _ (by omega)).trans i.row2, setRow_heap _ _ _ _ _ _ hz, ⟨hr.1, ?_⟩, i.below.trans ⟨rfl, rfl, rfl, by simp, fun k hk => setRow_other _ _ _ _ (by omega)⟩⟩
  rcases hr.2 with h1 | ⟨k, cap, cur, h1, h2, h3, h4⟩
  · exact .inl h1
  · refine .inr ⟨k, cap, cur, h1, h2, (setRow_other _ _ _ _ fun e => ?_).trans h3, h4⟩
    subst e
    rw [hz] at h3
    simp only [Option.some.injEq, Obj.cells.injEq] at h3
    exact hS h3.2.1
end Go.Nod
namespace Go.Proofs.YtcdmdpafkiljdaaDoor
open Go.RowKit Go.Wire Go.Stamp Go.Opn Go.Nod
attribute [local go_sem] Oper.semAt_some
set_option maxRecDepth 100000 in
set_option maxHeartbeats 8000000 in
theorem nodeSigns_core (n m x : Nd) (pw : Value) (qa : Option Addr) (qc : Nat) (key : Int) (K : Nat) (E : Int) (w : World) (hK : K ≤ 15) (hkey : bits .and .i64 key 15 = (K : Int)) (hR : StrRow.Reads w (.slice qa n.ps.length qc) n.ps) (hn : n.ps.length ≤ maxLen) (hx : ∀ x ∈ n.ps, x.size ≤ maxLen) (hc : 0 ≤ n.op.tm.c)
    (HSi : Hid (∀ v w', Below w.heap.size w w' → Mac.RingAt w' v (Mac.keysOf sgSeed K) → Calls Tryd.prog 5 #[v, n.v (.slice qa n.ps.length qc)] w' fun e w2 => ∃ px, e = .returned (.tuple #[x.v px, .int .i64 E]) ∧ w2.ownsRow w'.heap.size 9 1 px x.ps.length (x.ps.map Value.string) ∧ Below w'.heap.size w' w2)) (hst : Steps w)
    (hcase : ((n.au < 0 ∨ (K : Int) ≤ n.au) ∧ E = 2 ∧ x.tg = ⟨#[]⟩) ∨ (¬ (n.au < 0 ∨ (K : Int) ≤ n.au) ∧ (Nd.mk n.au n.ps n.op sgTag).chk ≠ 0 ∧ E = (Nd.mk n.au n.ps n.op sgTag).chk ∧ x.tg = ⟨#[]⟩)) :
    Calls Tryd.prog 3 #[n.v (.slice qa n.ps.length qc), m.v pw, .int .i64 key] w fun e w' => e = .returned (.bool true) ∧ Below w.heap.size w w' := by
  have HF : Hid (∀ w', Below w.heap.size w w' → Calls Tryd.prog 8 #[(Nd.mk n.au n.ps n.op sgTag).v (.slice qa n.ps.length qc)] w' fun e w2 => e = .returned ((Nd.mk n.au (n.ps.take 9) n.op sgTag).v (cut9 (.slice qa n.ps.length qc))) ∧ Below w'.heap.size w' w2) := fun w' kb => ref11_any (Nd.mk n.au n.ps n.op sgTag) _ w' (hR.below kb (Nat.le_refl _)) hn
  have HG : Hid (∀ w', Below w.heap.size w w' → Calls Tryd.prog 7 #[(Nd.mk n.au (n.ps.take 9) n.op sgTag).v (cut9 (.slice qa n.ps.length qc))] w' fun e w2 => e = .returned (.int .i64 (Nd.mk n.au n.ps n.op sgTag).chk) ∧ Below w'.heap.size w' w2) := fun w' kb => by
    have := rcheck11_any (Nd.mk n.au (n.ps.take 9) n.op sgTag) (cut9 (.slice qa n.ps.length qc)) w' (cut9_reads (hR.below kb (Nat.le_refl _))) (by show (n.ps.take 9).length ≤ _; rw [List.length_take]; unfold maxLen; omega) (fun x hm => hx x (List.mem_of_mem_take hm)) hc
    rwa [chk_cut9 (Nd.mk n.au n.ps n.op sgTag)] at this
  have HA : Hid (∀ w', Below w.heap.size w w' → Calls Tryd.prog 9 #[] w' fun e w2 => e = .returned (.bool true) ∧ Below w'.heap.size w' w2) := fun w' kb => awake11_any w' (hst.below kb hst.pos)
  generalize (Nd.mk n.au n.ps n.op sgTag).chk = C at *
  generalize cut9 (.slice qa n.ps.length qc) = qv at *
  have HRg : Hid (∀ w', Below w.heap.size w w' → Calls Tryd.prog 6 #[.string ⟨#[115, 101, 101, 100]⟩, .int .i64 (K : Int)] w' fun e w2 => ∃ v, e = .returned v ∧ Mac.RingAt w2 v (Mac.keysOf sgSeed K) ∧ Below w'.heap.size w' w2) := fun w' kb => ring11_any sgSeed K w' (by omega) (by decide) (hst.below kb hst.pos)
  have HI := hide (Bn2.new w (n.cs (.slice qa n.ps.length qc)) (m.cs pw) 29)
  clear hR hn hx hc
  clear hst
  generalize Mac.keysOf sgSeed K = KS at *
  obtain ⟨au, ps, ⟨kd, ⟨c, k⟩, th, p, nm, d, g, z⟩, tg⟩ := n
  obtain ⟨au', ps', ⟨kd', ⟨c', k'⟩, th', p', nm', d', g', z'⟩, tg'⟩ := m
  obtain ⟨xau, xs, ⟨xkd, ⟨xc, xk⟩, xth, xp, xnm, xd, xg, xz⟩, xt⟩ := x
  unfold Nd.v Nd.cs at *
  dsimp only at *
  go_enter Tryd.func3, Tryd.ntmps3
  go_upto_region 2 with fail
  go_cut [8, 9] (fun v8 v9 wx => ∃ (h : Nat) (xa : Option Addr) (xq : Nat), v8 = .pointer (some ⟨h, 0, none⟩) ∧ v9 = .int .i64 E ∧ Hid (w.heap.size + 1 < h ∧ Ns 29 w w.heap.size h ((Nd.mk au ps ⟨kd, ⟨c, k⟩, th, p, nm, d, g, z⟩ tg).cs (.slice qa ps.length qc)) ((Nd.mk au' ps' ⟨kd', ⟨c', k'⟩, th', p', nm', d', g', z'⟩ tg').cs pw) ((Nd.mk xau xs ⟨xkd, ⟨xc, xk⟩, xth, xp, xnm, xd, xg, xz⟩ xt).cs (.slice xa xs.length xq)) (.slice xa xs.length xq) xs wx))
  case first =>
    generalize (w.alloc (.cells _ 29)).alloc (.cells _ 29) = W at *
    refine RegionOwn.regionKF 8 112 6 (.int .i64 E) (fun j => match j with
        | 0 => RegionOwn.val (.int .i64 K)
        | 1 => RegionOwn.fact (fun x v => Mac.RingAt x v KS)
        | 2 => RegionOwn.val (.agg #[.int .i64 au, .slice qa ps.length qc, .int .i64 kd, .int .u64 c, .int .i64 k, .int .u64 th, .int .u64 p, .string nm, .bool d, .string g, .int .i64 z, .string tg])
        | 3 => RegionOwn.fact (fun x v => ∃ xa xq, v = .tuple #[.agg #[.int .i64 xau, .slice xa xs.length xq, .int .i64 xkd, .int .u64 xc, .int .i64 xk, .int .u64 xth, .int .u64 xp, .string xnm, .bool xd, .string xg, .int .i64 xz, .string xt], .int .i64 E] ∧ x.ownsRow w.heap.size 9 1 (.slice xa xs.length xq) xs.length (xs.map Value.string))
        | 4 => RegionOwn.fact (fun x v => ∃ xa xq, v = .tuple #[.agg #[.int .i64 xau, .slice xa xs.length xq, .int .i64 xkd, .int .u64 xc, .int .i64 xk, .int .u64 xth, .int .u64 xp, .string xnm, .bool xd, .string xg, .int .i64 xz, .string xt], .int .i64 E] ∧ x.ownsRow w.heap.size 9 1 (.slice xa xs.length xq) xs.length (xs.map Value.string))
        | 5 => RegionOwn.fact (fun x v => ∃ xa xq, v = .agg #[.int .i64 xau, .slice xa xs.length xq, .int .i64 xkd, .int .u64 xc, .int .i64 xk, .int .u64 xth, .int .u64 xp, .string xnm, .bool xd, .string xg, .int .i64 xz, .string xt] ∧ x.ownsRow w.heap.size 9 1 (.slice xa xs.length xq) xs.length (xs.map Value.string))
        | 6 => RegionOwn.val (.int .i64 E)
        | 7 => RegionOwn.fact (fun x v => ∃ h, v = .pointer (some ⟨h, 0, none⟩) ∧ w.heap.size + 1 < h ∧ x.heap[h]? = some (.cells #[.int .i64 0, .slice none 0 0, .int .i64 0, .int .u64 0, .int .i64 0, .int .u64 0, .int .u64 0, .string ⟨#[]⟩, .bool false, .string ⟨#[]⟩, .int .i64 0, .string ⟨#[]⟩] 29 (0, 0)))
        | _ => RegionOwn.val undef) ?_ rfl (by kernel_rfl) rfl (by kernel_rfl) ?_ (fun _ _ _ h => h) ?_ ?_ ?_
    · intro j hj
      match j, hj with
      | 0, _ | 1, _ | 2, _ | 3, _ | 4, _ | 5, _ | 6, _ | 7, _ => rfl
      | j + 8, h => exact absurd h (by omega)
    · intro j p hj h
      match j, hj, h with
      | 0, _, h | 2, _, h | 6, _, h => cases h
      | 1, _, h => cases h; exact fun x y v h hb => h.below hb (Nat.le_refl _)
      | 3, _, h | 4, _, h | 5, _, h => cases h; exact fun x y v ⟨xa, xq, e1, e2⟩ hb => ⟨xa, xq, e1, nd_own_below e2 hb⟩
      | 7, _, h => cases h; exact fun x y v ⟨h, e1, e2, e3⟩ hb => ⟨h, e1, e2, kept_block e3 hb⟩
      | j + 8, h, _ => exact absurd h (by omega)
    · intro o ho y x hfr hbx hD
      cases ho
      obtain ⟨xa, xq, q, _⟩ : ∃ xa xq, RegionOwn.T y 15 = .tuple #[.agg #[.int .i64 xau, .slice xa xs.length xq, .int .i64 xkd, .int .u64 xc, .int .i64 xk, .int .u64 xth, .int .u64 xp, .string xnm, .bool xd, .string xg, .int .i64 xz, .string xt], .int .i64 E] ∧ x.ownsRow w.heap.size 9 1 (.slice xa xs.length xq) xs.length (xs.map Value.string) := hD 4 15 (by decide) rfl (by kernel_rfl)
      refine .inl ⟨rfl, fun w' => ?_⟩
      clear hD hfr
      unfold RegionOwn.T at q
      go_simp
    · intro j hj hjf y x hfr hbx hD K' hK
      have e3 : RegionOwn.T y 3 = .pointer (some ⟨w.heap.size, 0, none⟩) := hfr.at (by kernel_rfl) rfl
      have e7 : RegionOwn.T y 7 = .int .i64 K := hfr.at (by kernel_rfl) rfl
      have hI := HI.out.step hbx
      match j, hj with
        | 0, _ =>
          refine RegionOwn.quiet rfl rfl hK rfl rfl ?_
          clear hK hD hfr
          unfold RegionOwn.T at e7
          go_simp
        | 1, _ =>
          have q : RegionOwn.T y 16 = .int .i64 K := hD 0 16 (by decide) rfl (by kernel_rfl)
          refine RegionOwn.calledG (f := 6) (args := #[.string ⟨#[115, 101, 101, 100]⟩, .int .i64 K]) rfl rfl hK rfl ?_ ((HRg.out x hI.below).mono fun e w' ⟨v', he, hr, hb⟩ => ⟨_, he, hb, hr⟩)
          clear hK hD hfr
          unfold RegionOwn.T at q
          go_simp
        | 2, _ =>
          refine RegionOwn.quiet rfl rfl hK rfl rfl ?_
          obtain ⟨c0, c1, c2, c3, c4, c5, c6, c7, c8, c9, c10, c11⟩ := cells12 (n := (Nd.mk au ps ⟨kd, ⟨c, k⟩, th, p, nm, d, g, z⟩ tg)) hI.row
          clear hK hD hfr
          unfold RegionOwn.T at e3
          go_simp
        | 3, _ =>
          have q1 : Mac.RingAt x (RegionOwn.T y 17) KS := hD 1 17 (by decide) rfl (by kernel_rfl)
          have q2 : RegionOwn.T y 18 = .agg #[.int .i64 au, .slice qa ps.length qc, .int .i64 kd, .int .u64 c, .int .i64 k, .int .u64 th, .int .u64 p, .string nm, .bool d, .string g, .int .i64 z, .string tg] := hD 2 18 (by decide) rfl (by kernel_rfl)
          refine RegionOwn.calledG (f := 5) (args := #[y.tmps.getD 17 undef, .agg #[.int .i64 au, .slice qa ps.length qc, .int .i64 kd, .int .u64 c, .int .i64 k, .int .u64 th, .int .u64 p, .string nm, .bool d, .string g, .int .i64 z, .string tg]]) rfl rfl hK rfl ?_ ((HSi.out _ x hI.below q1).mono fun e w' ⟨px, he, hr, hb⟩ => ?_)
          · clear hK hD hfr
            unfold RegionOwn.T at q2
            go_simp
          · obtain ⟨xa, xq, rfl⟩ := own_slice hr
            exact ⟨_, he, hb, xa, xq, rfl, nd_own_mono hr hI.below.size⟩
        | 4, _ =>
          obtain ⟨xa, xq, q, hr⟩ : ∃ xa xq, RegionOwn.T y 19 = .tuple #[.agg #[.int .i64 xau, .slice xa xs.length xq, .int .i64 xkd, .int .u64 xc, .int .i64 xk, .int .u64 xth, .int .u64 xp, .string xnm, .bool xd, .string xg, .int .i64 xz, .string xt], .int .i64 E] ∧ x.ownsRow w.heap.size 9 1 (.slice xa xs.length xq) xs.length (xs.map Value.string) := hD 3 19 (by decide) rfl (by kernel_rfl)
          refine RegionOwn.quiet rfl rfl hK rfl ⟨xa, xq, rfl, hr⟩ ?_
          clear hK hD hfr
          unfold RegionOwn.T at q
          go_simp
        | 5, _ =>
          obtain ⟨xa, xq, q, hr⟩ : ∃ xa xq, RegionOwn.T y 15 = .tuple #[.agg #[.int .i64 xau, .slice xa xs.length xq, .int .i64 xkd, .int .u64 xc, .int .i64 xk, .int .u64 xth, .int .u64 xp, .string xnm, .bool xd, .string xg, .int .i64 xz, .string xt], .int .i64 E] ∧ x.ownsRow w.heap.size 9 1 (.slice xa xs.length xq) xs.length (xs.map Value.string) := hD 4 15 (by decide) rfl (by kernel_rfl)
          refine RegionOwn.quiet rfl rfl hK rfl ⟨xa, xq, rfl, hr⟩ ?_
          clear hK hD hfr
          unfold RegionOwn.T at q
          go_simp
        | 6, _ => exact absurd rfl hjf
        | 7, _ =>
          refine RegionOwn.made (v := .pointer (some ⟨x.heap.size, 0, none⟩)) (ob := .cells #[.int .i64 0, .slice none 0 0, .int .i64 0, .int .u64 0, .int .i64 0, .int .u64 0, .int .u64 0, .string ⟨#[]⟩, .bool false, .string ⟨#[]⟩, .int .i64 0, .string ⟨#[]⟩] 29) rfl rfl hK ⟨_, rfl, row_lt hI.row2, heap_alloc_new _ _⟩ (fun g hg => by cases hg) ?_
          clear hK hD hfr
          go_simp
        | j + 8, h => exact absurd h (by omega)
    · intro y x hfr hbx hD
      obtain ⟨xa, xq, q5, hr⟩ : ∃ xa xq, RegionOwn.T y 20 = .agg #[.int .i64 xau, .slice xa xs.length xq, .int .i64 xkd, .int .u64 xc, .int .i64 xk, .int .u64 xth, .int .u64 xp, .string xnm, .bool xd, .string xg, .int .i64 xz, .string xt] ∧ x.ownsRow w.heap.size 9 1 (.slice xa xs.length xq) xs.length (xs.map Value.string) := hD 5 20 (by decide) rfl
      have q6 : RegionOwn.T y 21 = .int .i64 E := hD 6 21 (by decide) rfl
      obtain ⟨h, q7, hh, hrow⟩ : ∃ h, RegionOwn.T y 8 = .pointer (some ⟨h, 0, none⟩) ∧ w.heap.size + 1 < h ∧ x.heap[h]? = some (.cells #[.int .i64 0, .slice none 0 0, .int .i64 0, .int .u64 0, .int .i64 0, .int .u64 0, .int .u64 0, .string ⟨#[]⟩, .bool false, .string ⟨#[]⟩, .int .i64 0, .string ⟨#[]⟩] 29 (0, 0)) := hD 7 8 (by decide) rfl
      have hys := hfr.sets [16, 17, 18, 19, 15, 20, 21, 8] (by kernel_rfl)
      simp only [RegionOwn.setAll, List.foldl_cons, List.foldl_nil] at hys
      have hI := HI.out.step hbx
      clear hD hfr
      generalize RegionOwn.T y 16 = u16 at *
      generalize RegionOwn.T y 17 = u17 at *
      generalize RegionOwn.T y 18 = u18 at *
      generalize RegionOwn.T y 19 = u19 at *
      generalize RegionOwn.T y 15 = u15 at *
      generalize RegionOwn.T y 20 = u20 at *
      generalize RegionOwn.T y 21 = u21 at *
      generalize RegionOwn.T y 8 = u8 at *
      subst hys q5 q6 q7
      simp only [List.drop_succ_cons, List.drop_zero, List.setIfInBounds_toArray, List.set_cons_succ, List.set_cons_zero]
      have J := hide (Ns.start hI hrow hh hr #[.int .i64 xau, .slice xa xs.length xq, .int .i64 xkd, .int .u64 xc, .int .i64 xk, .int .u64 xth, .int .u64 xp, .string xnm, .bool xd, .string xg, .int .i64 xz, .string xt] (Nat.le_refl _) (by decide))
      clear hI hr hbx HI
      go_wp2_with (refine wpList_store_row rfl 29 _ _ rfl _ _ rfl rfl 29 _ hrow infoNode rfl (by simp [Value.oneCell']) ?_)
      go_meet
      exact ⟨h, xa, xq, rfl, rfl, hh, J.out⟩
  obtain ⟨h, xa, xq, rfl, rfl, HJ⟩ := hcut
  have J := hide HJ.out.2
  have hh := HJ.out.1
  have HH := hide hh
  clear HJ HSi HRg HI hh
  dsimp only [Nd.cs] at J
  go_upto_region 3 with fail
  refine wp_region_lit ?_
  refine wpList_load_row rfl 29 _ rfl _ rfl _ _ _ _ J.out.row Tryd.underlying29 rfl infoNode ?_
  simp only [Act.put, List.setIfInBounds_toArray, List.set_cons_succ, List.set_cons_zero]
  go_upto_region 4 with (refine wpList_store_row rfl 29 _ _ rfl _ _ rfl rfl 29 _ (heap_alloc_new wc (.cells #[.int .i64 0, .slice none 0 0, .int .i64 0, .int .u64 0, .int .i64 0, .int .u64 0, .int .u64 0, .string ⟨#[]⟩, .bool false, .string ⟨#[]⟩, .int .i64 0, .string ⟨#[]⟩] 29)) infoNode rfl (by simp [Value.oneCell']) ?_)
  have Y := hide (ny_start wc #[.int .i64 0, .slice none 0 0, .int .i64 0, .int .u64 0, .int .i64 0, .int .u64 0, .int .u64 0, .string ⟨#[]⟩, .bool false, .string ⟨#[]⟩, .int .i64 0, .string ⟨#[]⟩] ((Nd.mk au ps ⟨kd, ⟨c, k⟩, th, p, nm, d, g, z⟩ tg).cs (.slice qa ps.length qc)) 29)
  dsimp only [Nd.cs] at Y
  have b11 : ((wc.alloc (.cells #[.int .i64 0, .slice none 0 0, .int .i64 0, .int .u64 0, .int .i64 0, .int .u64 0, .int .u64 0, .string ⟨#[]⟩, .bool false, .string ⟨#[]⟩, .int .i64 0, .string ⟨#[]⟩] 29)).setRow wc.heap.size ((Nd.mk au ps ⟨kd, ⟨c, k⟩, th, p, nm, d, g, z⟩ tg).cs (.slice qa ps.length qc))).cell? ⟨wc.heap.size, 11, none⟩ = some (.string tg) := cell_of_row _ _ _ _ _ _ Y.out.1
  have f11 : ((wc.alloc (.cells #[.int .i64 0, .slice none 0 0, .int .i64 0, .int .u64 0, .int .i64 0, .int .u64 0, .int .u64 0, .string ⟨#[]⟩, .bool false, .string ⟨#[]⟩, .int .i64 0, .string ⟨#[]⟩] 29)).setRow wc.heap.size ((Nd.mk au ps ⟨kd, ⟨c, k⟩, th, p, nm, d, g, z⟩ tg).cs (.slice qa ps.length qc))).frozen? ⟨wc.heap.size, 11, none⟩ = false := frozen_of_row _ _ _ _ _ Y.out.1
  dsimp only [Nd.cs] at b11 f11
  generalize (wc.alloc (.cells _ 29)).setRow wc.heap.size _ = V at *
  go_upto_region 5 with fail
  have Y2 := hide (ny_set Y.out 11 (.string sgTag) ((Nd.mk au ps ⟨kd, ⟨c, k⟩, th, p, nm, d, g, z⟩ sgTag).cs (.slice qa ps.length qc)) rfl)
  clear b11 f11 Y
  replace J := hide (J.out.step Y2.out.2)
  have Y3 := hide Y2.out.1
  clear Y2
  unfold sgTag at *
  dsimp only [Nd.cs] at Y3 J
  generalize V.setCell ⟨wc.heap.size, 11, none⟩ _ = V2 at *
  generalize wc.heap.size = y at *
  go_upto_region 8 with (first
    | (refine wpList_load_row rfl 29 _ rfl _ rfl _ _ _ _ Y3.out Tryd.underlying29 rfl infoNode ?_)
    | (go_at_call 8; refine (HF.out _ J.out.below).mono ?_; clear HF; rintro e w3 ⟨rfl, k3⟩; replace J := hide (J.out.step k3); clear k3 Y3)
    | (go_at_call 7; refine (HG.out _ J.out.below).mono ?_; clear HG; rintro e w4 ⟨rfl, k4⟩; replace J := hide (J.out.step k4); clear k4)
    | (go_at_call 9; refine (HA.out _ J.out.below).mono ?_; rintro e w5 ⟨rfl, k5⟩; replace J := hide (J.out.step k5); clear k5))
  have c0 : w5.cell? ⟨w.heap.size, 0, none⟩ = some (.int .i64 au) := (cells12 (n := (Nd.mk au ps ⟨kd, ⟨c, k⟩, th, p, nm, d, g, z⟩ tg)) J.out.row).1
  have x11 : w5.cell? ⟨h, 11, none⟩ = some (.string xt) := (cells12 (n := (Nd.mk xau xs ⟨xkd, ⟨xc, xk⟩, xth, xp, xnm, xd, xg, xz⟩ xt)) J.out.row3).2.2.2.2.2.2.2.2.2.2.2
  rcases hcase with ⟨ho, rfl, rfl⟩ | ⟨ho, hC, rfl, rfl⟩
  · have hcond : au < 0 ∨ (0 ≤ au ∧ (K : Int) ≤ au) := by omega
    rcases hcond with h1 | ⟨h1, h2⟩
    · go_wp2_with fail
      go_ret
      exact ⟨rfl, J.out.below⟩
    · have h3 : ¬ au < 0 := by omega
      go_wp2_with fail
      go_ret
      exact ⟨rfl, J.out.below⟩
  · have h1 : ¬ au < 0 := by omega
    have h2 : ¬ (K : Int) ≤ au := by omega
    have h3 : au < K := by omega
    have hC2 : ¬ E = 0 := hC
    go_wp2_with fail
    go_ret
    exact ⟨rfl, J.out.below⟩
end Go.Proofs.YtcdmdpafkiljdaaDoor
