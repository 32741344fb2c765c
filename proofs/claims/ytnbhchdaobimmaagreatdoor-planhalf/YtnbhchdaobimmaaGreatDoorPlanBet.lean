/- Contract: the steps between two images. -/
import Derived.Test.YtnbhchdaobimmaaGreatDoorMunAC
import Derived.Test.YtnbhchdaobimmaaGreatDoorMunAD
import Derived.Test.YtnbhchdaobimmaaGreatDoorRegG
import Derived.Test.YtnbhchdaobimmaaGreatDoorSortThree
import Derived.Test.YtnbhchdaobimmaaGreatDoorMoveTwoAll
import Derived.Test.YtnbhchdaobimmaaGreatDoorRunAT
import Derived.Test.YtnbhchdaobimmaaGreatDoorBackAll
namespace Go.AppendSz
open Go.RowKit
variable {P : Program} {w : World}
theorem wpList_append_sz {ops : Array Oper} {rest : List Oper} {o : Oper} {a : Act} {Q : Exit → Act → World → Prop}
  (hg : o.guard = none) (s x : Operand) (t : TypeId) (hop : o.op = Op.call { callee := Callee.builtin Builtin.append, args := #[s, x], argTypes := #[t, t] })
  (base : Nat) (e : TypeId) (i : TypeInfo) (z : Value) (size bytes : Nat) (h1 : P.underlying t = some (.slice e)) (h2 : P.info? e = some i) (h3 : i.zero = some z) (h4 : i.size = size) (h5 : i.bytes = bytes) (h6 : z.cells.size = size) (h7 : 0 < size)
  (v : Value) (k : Nat) (xs : List Value) (hs : a.eval s = v) (hown : w.ownsRow base e size v k xs) (ad : Addr) (m c : Nat) (news : List Value) (hx : a.eval x = .slice (some ad) m c) (hn : news.length = m * size)
  (hc : ∀ j u, news[j]? = some u → w.cell? (ad.add j) = some u) (h1c : ∀ u ∈ news, u.oneCell' = true) (b1 : k + m ≤ maxLen) (b2 : (k + m) * bytes ≤ 140737488355328) (b3 : base ≤ w.heap.size)
  (hK : ∀ v' w', w'.ownsRow base e size v' (k + m) (xs ++ news) → w.grownBy w' v.ownBlock → (v'.ownBlock = v.ownBlock ∨ v'.ownBlock = some w.heap.size) → wpList P ops Q rest (a.put o.dst v') w') :
  wpList P ops Q (o :: rest) a w := by
 refine wpList_plain hg fun _ hK' => ?_
 obtain ⟨v', w', hr, r1, r2, _⟩ := run_append_own (P := P) w base t o.type e i z size bytes h1 h2 h3 h4 h5 h6 h7 v k xs hown ad m c news hn hc h1c b1 b2 b3
 have r3 := where_append (ty := o.type) h1 h2 h3 h4 h5 hown ad m c news hn hc h1c b2 b1 v' w' hr
 unfold Oper.wp execOp
 simp only [hop, resolve, invoke, builtin, Sem.run_bind, Sem.run_pure, Result.andThen_ok, List.map_toArray, List.map_cons, List.map_nil, hs, hx, hr]
 exact hK' _ _ (hK v' w' r1 r2 r3)
end Go.AppendSz
namespace Go.Proofs.YtnbhchdaobimmaaGreatDoor
open Go.RowKit Go.Img Go.Pln Go.MapFun Go.Maps Go.Shelf Go.Rws
attribute [local go_sem] Oper.semAt_some
/-- While the steps are gathered: a row of one's own in the box bX, apart from some blocks. -/
def Gp (bX n1 : Nat) (S : Nat → Prop) (w0 : World) (ss : List Pt) (W : World) : Prop :=
 ((∃ v, Boxed W bX 29 v ∧ W.ownsRow w0.heap.size 37 3 v ss.length (ss.flatMap Pt.cs) ∧ ∀ q, v.ownBlock = some q → ¬ S q) ∧ Below w0.heap.size w0 W) ∧ n1 ≤ W.heap.size
def goneOf (want : List Fi) (pl : List Fi) : List Pt := (pl.filter fun f => !has want f).map gon
theorem Gp.own {p : Fi → Prop} (want : List Fi) (bX n1 : Nat) (S : Nat → Prop) (w0 : World) (B : Nat) (hB : w0.heap.size ≤ B) : OwnFrom B (fun (pre : List (Bf p)) W => Gp bX n1 S w0 (goneOf want (pre.map (·.1.2))) W) := by
 refine OwnFrom.and (OwnFrom.and (Own.from (fun s A C row hs hg hr => ?_) B) (ownFrom_below (Nat.le_refl _) hB)) (fun s A C row hs hg hr => Nat.le_trans hs hg.size)
 exact holdsRow_own w0.heap.size bX 29 37 3 (fun pre : List (Bf p) => (goneOf want (pre.map (·.1.2))).length) (fun pre => (goneOf want (pre.map (·.1.2))).flatMap Pt.cs) (fun _ v => ∀ q, v.ownBlock = some q → ¬ S q) s A C row hs hg hr
/-- A block of a file's cells. -/
def Cel (y : World) (g : Nat) : Prop := ∃ cs : Array Value, cs.size = 5 ∧ y.heap[g]? = some (.cells cs 51 (0, 0))
/-- What the operations leave that look up where a file stands. -/
def F5 (mw : Nat) (x zc : Fi) (is : Bool) (n : Nat) (i : Nat) (y : World) (v : Value) : Prop :=
 match i with
 | 0 => v = .map (some mw)
 | 1 => v = .agg x.cs.toArray
 | 2 => v = plV (pk x)
 | 3 => v = .tuple #[.agg zc.cs.toArray, .bool is]
 | 4 => v = .tuple #[.agg zc.cs.toArray, .bool is]
 | 5 => v = .agg zc.cs.toArray
 | 6 => v = .bool is
 | 7 => ∃ g, v = .pointer (some ⟨g, 0, none⟩) ∧ n ≤ g ∧ Cel y g
 | 9 => v = .bool is
 | _ => True
theorem F5.on {mw n i : Nat} {x zc : Fi} {is : Bool} {y z : World} {v : Value} (h : F5 mw x zc is n i y v) (hR : ∀ g, n ≤ g → Cel y g → Cel z g) : F5 mw x zc is n i z v := by
 unfold F5 at h ⊢
 split
 case h_8 =>
  obtain ⟨g, h1, h2, h3⟩ := h
  exact ⟨g, h1, h2, hR g h2 h3⟩
 all_goals first | exact h | trivial
theorem Gp.step {bX n1 : Nat} {S : Nat → Prop} {w0 W W' : World} {ss : List Pt} (h : Gp bX n1 S w0 ss W) (k : Below W.heap.size W W') : Gp bX n1 S w0 ss W' := by
 obtain ⟨⟨⟨v, g1, g2, g3⟩, g4⟩, g5⟩ := h
 exact ⟨⟨⟨v, (k.block _ g1.lt).trans g1, Go.Mov.own_kept g2 (fun q hq => k.block q (g2.lt q hq).2), g3⟩, g4.trans (k.mono g4.size)⟩, Nat.le_trans g5 k.size⟩
theorem goneOf_snoc (want pl : List Fi) (x : Fi) : goneOf want (pl ++ [x]) = goneOf want pl ++ (if Pln.has want x then [] else [gon x]) := by
 unfold goneOf
 rw [List.filter_append, List.map_append]
 cases h : Pln.has want x <;> simp [h]
theorem zeroFi (w : World) : (zeroValue 51).run Tryz.prog w = .ok (.agg Fi.zero.cs.toArray) w := by kernel_rfl
set_option maxHeartbeats 16000000 in
set_option maxRecDepth 100000 in
theorem between_any (now want : List Fi) (u v : Value) (w : World) (hn : RowsAt Fi.cs 5 w u now) (hnN : Nice u) (hns : FilesOnce now) (hnp : ∀ f ∈ now, f.path.length ≤ 1000) (hnl : now.length ≤ 1000)
  (hw : RowsAt Fi.cs 5 w v want) (hwN : Nice v) (hws : FilesOnce want) (hwp : ∀ f ∈ want, f.path.length ≤ 1000) (hwl : want.length ≤ 1000) :
  Calls Tryz.prog 9 #[u, v] w fun e w' => ∃ o, e = .returned o ∧ OwnR Pt.cs 3 37 w o (betw now want) w' := by
 refine (callsIn_wide (n := 9)).1 ?_
 have HPn := hide (places_any now u w hn hnp (by omega))
 have HPw := hide (fun w1 (k : Below w.heap.size w w1) => places_any want v w1 (hw.below k) hwp (by omega))
 have HOn := hide (fun w1 (k : Below w.heap.size w w1) => ordered_any now u w1 (hn.below k) hnN hns hnp (by omega))
 have HOw := hide (fun w1 (k : Below w.heap.size w w1) => ordered_any want v w1 (hw.below k) hwN hws hwp (by omega))
 have HP := hide (And.intro hnp hwp)
 clear hn hnN hns hnp hw hwN hws hwp
 refine callsIn_of_wp_marks Tryz.func9 rfl trivial ?_ rfl
 simp only [Tryz.ntmps9, List.size_toArray, List.length_cons, List.length_nil, Nat.reduceAdd, Nat.reduceSub, Array.replicate_succ, Array.replicate_zero, List.push_toArray, List.append_toArray, List.nil_append, List.cons_append]
 refine wpIn_wide.2 ?_
 go_upto_region 2 with (first
  | (go_at_call 27; refine HPn.out.mono ?_; rintro r w1 ⟨mn, rfl, hm1, hm2, k1⟩; have M1 := hide (And.intro hm1 (And.intro hm2 k1)); have HPw2 := hide (HPw.out w1 k1); clear hm1 hm2 k1 HPn HPw)
  | (go_at_call 27; refine HPw2.out.mono ?_; rintro r w2 ⟨mw, rfl, hm1, hm2, k1⟩; have M2 := hide (And.intro hm1 (And.intro hm2 k1)); clear hm1 hm2 k1 HPw2))
 have HC : Hid (Below w.heap.size w (w2.alloc (.cells #[.map (some mw)] 83)) ∧ Boxed (w2.alloc (.cells #[.map (some mw)] 83)) w2.heap.size 83 (.map (some mw)) ∧ MapPl now.length (w2.alloc (.cells #[.map (some mw)] 83)) mn (lkP now) ∧ MapPl want.length (w2.alloc (.cells #[.map (some mw)] 83)) mw (lkP want)) := by
  have k2 : Below w.heap.size w w2 := M1.out.2.2.trans (M2.out.2.2.mono M1.out.2.2.size)
  have ka := (Below.refl _ w2).alloc (Nat.le_refl _) (.cells #[.map (some mw)] 83)
  exact ⟨k2.trans (ka.mono k2.size), Boxed.new _ _ _, (M1.out.2.1.below M1.out.2.1.lt M2.out.2.2).below (Nat.lt_of_lt_of_le M1.out.2.1.lt M2.out.2.2.size) ka, M2.out.2.1.below M2.out.2.1.lt ka⟩
 generalize w2.alloc (.cells #[.map (some mw)] 83) = wc at *
 generalize w2.heap.size = B6 at *
 clear M1 M2
 have ka := (Below.refl _ wc).alloc (Nat.le_refl _) (.cells #[.slice none 0 0] 29)
 have HKA := hide ka
 have HO1 := hide (HOn.out _ (HC.out.1.trans (ka.mono HC.out.1.size)))
 clear ka HOn
 go_wp2_with (first
  | (go_at_call 29; refine HO1.out.mono ?_; rintro r w3 ⟨vo, rfl, ho⟩; obtain ⟨oa, oc, rfl⟩ := ho.form; have O1 := hide ho; clear ho HO1)
  | (go_at_call 28; refine (backwardF_any _ _ _ _).mono ?_; rintro e w4 ⟨rfl, rfl⟩))
 have hz3 := O1.out.below.size
 have hza : wc.heap.size + 1 ≤ w3.heap.size := by simpa using hz3
 have kz := (Below.refl _ w3).alloc (Nat.le_refl _) (.cells #[.slice oa now.length oc] 27)
 have hb7 : Boxed (w3.alloc (.cells #[.slice oa now.length oc] 27)) wc.heap.size 29 (.slice none 0 0) := (kz.block _ (by omega)).trans ((O1.out.below.block _ (by simp)).trans (Boxed.new _ _ _))
 have hk7 : Below wc.heap.size wc (w3.alloc (.cells #[.slice oa now.length oc] 27)) := (HKA.out.trans (O1.out.below.mono (by simp))).trans (kz.mono (by omega))
 have hbx : (w3.alloc (.cells #[.slice oa now.length oc] 27)).cell? ⟨w3.heap.size, 0, none⟩ = some (.slice oa now.length oc) := (cell_of_row _ _ _ _ _ _ (heap_alloc_new w3 _)).trans rfl
 obtain ⟨gc, hgc, hgl, hgw⟩ : ∃ gc, (∀ x, oa = some x → x.block = gc) ∧ gc < w3.heap.size + 1 ∧ wc.heap.size < gc := by
  have hl := O1.out.own.lt
  cases oa with
  | none => exact ⟨w3.heap.size, (fun x h => by cases h), by omega, by omega⟩
  | some x => exact ⟨x.block, (fun y h => by cases h; rfl), by have := (hl x.block rfl).2; omega, by have := (hl x.block rfl).1; simp at this; omega⟩
 have HVs := hide (backF_of (fun f => f.path.length ≤ 1000) now HP.out.1 w3.heap.size gc 8 _ hbx hgc ((O1.out.rows Fi.cs_length).below kz) (by omega))
 have hz7 : (w3.alloc (.cells #[.slice oa now.length oc] 27)).heap.size = w3.heap.size + 1 := by simp
 have HG0 : Hid (Gp wc.heap.size (w3.heap.size + 1) (fun q => q = w3.heap.size ∨ q = gc) wc [] (w3.alloc (.cells #[.slice oa now.length oc] 27))) := ⟨⟨⟨_, hb7, ⟨rfl, .inl ⟨rfl, rfl⟩⟩, fun q hq => by cases hq⟩, hk7⟩, by omega⟩
 obtain ⟨bx, hbxe⟩ : ∃ bx, bx = w3.heap.size := ⟨_, rfl⟩
 rw [← hbxe] at HVs HG0 hgl hz7 hza ⊢
 generalize w3.alloc (.cells #[.slice oa now.length oc] 27) = w7 at *
 have HX := hide (And.intro hgl (And.intro hgw (And.intro hz7 hza)))
 clear hb7 hk7 hbx hz3 kz hgc hgl hgw hz7 hza hbxe O1 HKA
 refine (wpIn_wide (n := 9)).1 ?_
 generalize hA : Act.mk _ [] = A
 refine wpIn_rangeFunc_ownH rfl (by decide) (gf := 63) (lb := #[.pointer (some ⟨bx, 0, none⟩)]) (by subst hA; rfl) trivial (enters_of Tryz.func63 (by kernel_rfl) rfl)
  HVs.out (fun h k => KpB_t _ _ h k) (KpB_b _ _ _ (by have := HX.out; omega) (by have := HX.out; omega)) (Below.refl _ _) (fun _ => rfl)
  (fun pre W => Gp wc.heap.size (bx + 1) (fun q => q = bx ∨ q = gc) wc (goneOf want (pre.map (·.1.2))) W)
  (fun _ _ _ => False)
  (Gp.own _ _ _ _ _ _ HG0.out.1.2.size) (fun c s A B row h => h.elim) HG0.out
  (fun x a' W => ∃ Bt, wc.heap.size < Bt ∧ W.heap[Bt]? = some (.cells x.1.2.cs.toArray 51 (0, 0)) ∧ a' = { tmps := ((A.tmps.setIfInBounds 24 (.int .i64 x.1.1)).setIfInBounds 25 (.agg x.1.2.cs.toArray)).setIfInBounds 9 (.pointer (some ⟨Bt, 0, none⟩)), defers := [] }) ?hAx ?assign ?body ?done ?stop
 case hAx =>
  rintro x a' _ X Y row ⟨Bt, h1, h2, h3⟩ hg hr
  exact ⟨Bt, h1, (hg.block Bt (Array.getElem?_eq_some_iff.1 h2).1 (fun e => by obtain ⟨_, o, ho, hc⟩ := hr Bt e.symm; rw [h2] at ho; cases ho; cases hc)).trans h2, h3⟩
 case assign =>
  rintro lq pre ⟨⟨k, x⟩, hx⟩ W K hI hK
  subst hA
  dsimp only
  unfold Fi.cs
  gi_wp2
  have kz := (Below.refl _ W).alloc (Nat.le_refl _) (.cells x.cs.toArray 51)
  obtain ⟨⟨⟨v, g1, g2, g3⟩, g4⟩, g5⟩ := hI
  have hzW := g4.size
  have hb := HX.out
  exact hK _ _ ((KeepsOthers.alloc _ _).from _) ⟨kz.size, kz.block _ (by omega), kz.block _ (by omega)⟩ ⟨⟨⟨v, g1.alloc _, g2.alloc _, g3⟩, g4.trans (kz.mono hzW)⟩, Nat.le_trans g5 kz.size⟩ ⟨W.heap.size, by omega, heap_alloc_new W _, rfl⟩
 case body =>
  rintro lq pre ⟨⟨k, x⟩, hx⟩ a' W hlq hrec ⟨⟨⟨v, g1, g2, g3⟩, g4⟩, g5⟩ ⟨Bt, hBt, h2, rfl⟩ hlen2
  subst hA
  dsimp only at h2 hx
  obtain ⟨pl, hpl⟩ : ∃ pl, pl = pre.map (·.1.2) := ⟨_, rfl⟩
  have hpll : pl.length < 1000 := by rw [hpl, List.length_map]; omega
  rw [← hpl] at g2
  have HPL := hide hpl
  obtain ⟨va, vc, rfl⟩ := own_form g2
  have hB6 : Boxed W B6 83 (.map (some mw)) := (g4.block _ HC.out.2.1.lt).trans HC.out.2.1
  have hMw : MapPl want.length W mw (lkP want) := HC.out.2.2.2.below HC.out.2.2.2.lt g4
  obtain ⟨kl, hkl⟩ := plKey (pk x) hx
  obtain ⟨zc, hgot⟩ : ∃ zc : Fi, got true (.agg Fi.zero.cs.toArray) fiE (lkP want (pk x)) = .tuple #[.agg zc.cs.toArray, .bool (Pln.has want x)] := by
   unfold Pln.has
   cases lkP want (pk x) with
   | none => exact ⟨Fi.zero, rfl⟩
   | some a => exact ⟨a, rfl⟩
  obtain ⟨is, his⟩ : ∃ is, is = Pln.has want x := ⟨_, rfl⟩
  rw [← his] at hgot
  have HIS := hide his
  have HLk := hide (fun (y : World) (ky : Below W.heap.size W y) => (hMw.below hMw.lt ky).look plKeyed plUnder (zeroFi y) true (pk x) hkl)
  rw [hgot] at HLk
  have HV := hide (And.intro g1 (And.intro g2 (And.intro g3 (And.intro g4 g5))))
  have HB := hide (And.intro hB6 h2)
  clear g1 g2 g3 g4 g5 h2 hpl hlen2 hrec his hgot hkl hMw hB6
  simp only [List.setIfInBounds_toArray, List.set_cons_succ, List.set_cons_zero]
  gi_wp2_with fail
  refine RegionFact.regionIn (F5 mw x zc is W.heap.size) (fun y z => ∀ g, W.heap.size ≤ g → Cel y g → Cel z g) (fun y => Below W.heap.size W y) (by kernel_rfl) (by kernel_rfl) (by kernel_rfl) (fun i y z v h hR => h.on hR) (Below.refl _ W).drew ?hstep ?hdone
  case hstep =>
   intro i hi b y hfr hC hD K hK
   have e6 : RegionOwn.T b 6 = .pointer (some ⟨B6, 0, none⟩) := hfr.at (by kernel_rfl) rfl
   have e9 : RegionOwn.T b 9 = .pointer (some ⟨Bt, 0, none⟩) := hfr.at (by kernel_rfl) rfl
   match i, hi with
   | 0, _ =>
    have hc := Boxed.cell ((hC.block _ HB.out.1.lt).trans HB.out.1)
    refine RegionOwn.wpOp_value (v := .map (some mw)) (y := y) rfl rfl ?_ (hK _ _ (fun _ _ h => h) hC rfl)
    clear hK hD hfr
    unfold RegionOwn.T at e6
    go_simp
   | 1, _ =>
    have hr := (hC.block _ (Array.getElem?_eq_some_iff.1 HB.out.2).1).trans HB.out.2
    exact RegionOwn.wpOp_value (v := .agg x.cs.toArray) (y := y) rfl rfl (RegionFact.run_load (p := .tmp 9) rfl Bt x.cs.toArray e9 51 (0, 0) _ hr Tryz.underlying51 rfl infoFi5) (hK _ _ (fun _ _ h => h) hC rfl)
   | 2, _ =>
    have e28 : RegionOwn.T b 28 = .agg x.cs.toArray := hD 1 28 rfl (by kernel_rfl)
    refine RegionFact.wpOp_call rfl rfl (f := 30) (args := #[.agg x.cs.toArray]) ?_ ((placeOf_any x y).mono fun e z ⟨he, hb⟩ => ⟨_, he, hK _ _ (fun g hg ⟨cs, h1, h2⟩ => ⟨cs, h1, (hb.block g (Array.getElem?_eq_some_iff.1 h2).1).trans h2⟩) (hC.trans (hb.mono hC.size)) rfl⟩)
    clear hK hD hfr
    unfold RegionOwn.T at e28
    go_simp
   | 3, _ =>
    have e27 : RegionOwn.T b 27 = .map (some mw) := hD 0 27 rfl (by kernel_rfl)
    have e29 : RegionOwn.T b 29 = plV (pk x) := hD 2 29 rfl (by kernel_rfl)
    have hl := HLk.out y hC
    refine RegionOwn.wpOp_value (v := .tuple #[.agg zc.cs.toArray, .bool is]) (y := y) rfl rfl ?_ (hK _ _ (fun _ _ h => h) hC rfl)
    clear hK hD hfr
    unfold RegionOwn.T at e27 e29
    go_simp
   | 4, _ =>
    have e30 : RegionOwn.T b 30 = .tuple #[.agg zc.cs.toArray, .bool is] := hD 3 30 rfl (by kernel_rfl)
    refine RegionOwn.wpOp_value (v := .tuple #[.agg zc.cs.toArray, .bool is]) (y := y) rfl rfl ?_ (hK _ _ (fun _ _ h => h) hC rfl)
    clear hK hD hfr
    unfold RegionOwn.T at e30
    go_simp
   | 5, _ =>
    have e26 : RegionOwn.T b 26 = .tuple #[.agg zc.cs.toArray, .bool is] := hD 4 26 rfl (by kernel_rfl)
    refine RegionOwn.wpOp_value (v := .agg zc.cs.toArray) (y := y) rfl rfl ?_ (hK _ _ (fun _ _ h => h) hC rfl)
    clear hK hD hfr
    unfold RegionOwn.T at e26
    go_simp
   | 6, _ =>
    have e26 : RegionOwn.T b 26 = .tuple #[.agg zc.cs.toArray, .bool is] := hD 4 26 rfl (by kernel_rfl)
    refine RegionOwn.wpOp_value (v := .bool is) (y := y) rfl rfl ?_ (hK _ _ (fun _ _ h => h) hC rfl)
    clear hK hD hfr
    unfold RegionOwn.T at e26
    go_simp
   | 7, _ =>
    have kz := (Below.refl _ y).alloc (Nat.le_refl _) (.cells Fi.zero.cs.toArray 51)
    refine RegionOwn.wpOp_value (v := .pointer (some ⟨y.heap.size, 0, none⟩)) (y := y.alloc (.cells Fi.zero.cs.toArray 51)) rfl rfl ?_ (hK _ _ (fun g hg ⟨cs, h1, h2⟩ => ⟨cs, h1, (kz.block g (Array.getElem?_eq_some_iff.1 h2).1).trans h2⟩) (hC.trans (kz.mono hC.size)) ⟨y.heap.size, rfl, hC.size, _, rfl, heap_alloc_new y _⟩)
    have hz := zeroFi
    clear hK hD hfr kz
    go_simp
   | 8, _ =>
    obtain ⟨g, e10, hg, cs, hcs, hrow⟩ : ∃ g, RegionOwn.T b 10 = .pointer (some ⟨g, 0, none⟩) ∧ W.heap.size ≤ g ∧ Cel y g := hD 7 10 rfl (by kernel_rfl)
    have e31 : RegionOwn.T b 31 = .agg zc.cs.toArray := hD 5 31 rfl (by kernel_rfl)
    refine RegionFact.wpOp_skip (y := y.setRow g zc.cs.toArray) rfl rfl (RegionFact.run_store (p := .tmp 10) (q := .tmp 31) rfl g zc.cs.toArray cs e10 e31 51 hrow infoFi5 (by rw [hcs]; rfl) (by simp [Fi.cs, Value.oneCell'])) (hK _ _ (fun q hq ⟨cs', h1, h2⟩ => ?_) (below_setRow hC hg _) trivial)
    ·by_cases e : q = g
     ·subst e
      exact ⟨_, rfl, setRow_heap _ _ _ _ _ _ hrow⟩
     ·exact ⟨cs', h1, (setRow_other _ _ _ _ e).trans h2⟩
   | 9, _ =>
    have e32 : RegionOwn.T b 32 = .bool is := hD 6 32 rfl (by kernel_rfl)
    refine RegionOwn.wpOp_value (v := .bool is) (y := y) rfl rfl ?_ (hK _ _ (fun _ _ h => h) hC rfl)
    clear hK hD hfr
    unfold RegionOwn.T at e32
    go_simp
   | i + 10, h => exact absurd h (by simp)
  case hdone =>
   intro b y hfr hC hD
   have e7 : RegionOwn.T b 7 = .pointer (some ⟨wc.heap.size, 0, none⟩) := hfr.at (by kernel_rfl) rfl
   have e9 : RegionOwn.T b 9 = .pointer (some ⟨Bt, 0, none⟩) := hfr.at (by kernel_rfl) rfl
   have e11 : RegionOwn.T b 11 = .bool is := hD 9 11 rfl
   have hl94 : List.range 94 = [0, 1, 2, 3, 4, 5, 6, 7, 8, 9, 10, 11, 12, 13, 14, 15, 16, 17, 18, 19, 20, 21, 22, 23, 24, 25, 26, 27, 28, 29, 30, 31, 32, 33, 34, 35, 36, 37, 38, 39, 40, 41, 42, 43, 44, 45, 46, 47, 48, 49, 50, 51, 52, 53, 54, 55, 56, 57, 58, 59, 60, 61, 62, 63, 64, 65, 66, 67, 68, 69, 70, 71, 72, 73, 74, 75, 76, 77, 78, 79, 80, 81, 82, 83, 84, 85, 86, 87, 88, 89, 90, 91, 92, 93] := by decide
   have hdf : b.defers = [] := hfr.defers
   have hG : Gp wc.heap.size (bx + 1) (fun q => q = bx ∨ q = gc) wc (goneOf want pl) W := ⟨⟨⟨_, HV.out.1, HV.out.2.1, HV.out.2.2.1⟩, HV.out.2.2.2.1⟩, HV.out.2.2.2.2⟩
   have HGy := hide (hG.step hC)
   have HY := hide hC
   have HY0 : Hid (bx + 1 ≤ W.heap.size) := HV.out.2.2.2.2
   have HBy := hide ((hC.block _ (Array.getElem?_eq_some_iff.1 HB.out.2).1).trans HB.out.2)
   have HE1 : Hid ((pre ++ [(⟨(k, x), hx⟩ : Bf fun f => f.path.length ≤ 1000)]).map (·.1.2) = pl ++ [x]) := by
    show _ = _
    rw [List.map_append, ← HPL.out]
    rfl
   have HSn := hide (goneOf_snoc want pl x)
   rw [← HIS.out] at HSn
   rw [RegionOwn.act_lit b 94 (hfr.size.trans rfl), hl94, hdf]
   simp only [List.map_cons, List.map_nil, e7, e9, e11]
   clear hD hfr hl94 hdf e7 e9 e11 hC hG HLk HV HIS
   cases is with
   | true =>
    have hsn : goneOf want (pl ++ [x]) = goneOf want pl := by rw [HSn.out]; simp
    have HS2 := hide hsn
    clear HSn hsn
    gi_wp2_with fail
    have hb := HX.out
    have hw5 := HGy.out.2
    refine ⟨⟨HY.out.size, fun q o hq hqo _ => (HY.out.block q (Array.getElem?_eq_some_iff.1 hqo).1).trans hqo⟩, ⟨HY.out.size, HY.out.block _ ?_, HY.out.block _ ?_⟩, ?_⟩
    ·have := HY0.out; omega
    ·have := HY0.out; omega
    ·show Gp _ _ _ _ (goneOf want ((pre ++ [(⟨(k, x), hx⟩ : Bf fun f => f.path.length ≤ 1000)]).map (·.1.2))) _
     rw [HE1.out, HS2.out]
     exact HGy.out
   | false =>
    have hsn : goneOf want (pl ++ [x]) = goneOf want pl ++ [gon x] := by rw [HSn.out]; simp
    have HS2 := hide hsn
    clear HSn hsn
    obtain ⟨⟨⟨v7, g1, g2, g3⟩, g4⟩, g5⟩ := HGy.out
    obtain ⟨va7, vc7, rfl⟩ := own_form g2
    have hgl : (goneOf want pl).length < 1000 := by
     unfold goneOf
     rw [List.length_map]
     exact Nat.lt_of_le_of_lt (List.length_filter_le _ _) hpll
    have r7 := cell_regrown g1.cell
    have HG7 := hide (And.intro g1 (And.intro g2 g3))
    have HGn := hide (fun v => gone_any x v)
    unfold Pt.cs at HGn
    obtain ⟨ti, hti, htz, hts, htb⟩ := info_of infoPt3
    have HTI := hide (And.intro hti (And.intro htz (And.intro hts htb)))
    clear g1 g2 g3 g4 g5 hti htz hts htb
    gi_wp2_with fail
    refine RegionOwn.regionKIn (fun _ _ h => h) (by kernel_rfl) 4 94 37 3 (fun i => match i with
     | 0 => RegionOwn.val (.slice va7 (goneOf want pl).length vc7)
     | 1 => RegionOwn.val (.agg x.cs.toArray)
     | 2 => RegionOwn.val (.agg #[.int .i64 (gon x).kind, .string ⟨(gon x).path.toArray⟩, .string (gon x).dg])
     | 3 => RegionOwn.fact (fun z v => ∃ g, v = .slice (some ⟨g, 0, none⟩) 1 1 ∧ y.heap.size ≤ g ∧ z.heap[g]? = some (.cells #[.int .i64 (gon x).kind, .string ⟨(gon x).path.toArray⟩, .string (gon x).dg] 37 (0, 0)))
     | _ => RegionOwn.val undef) (fun _ => none) ?_ (by kernel_rfl) rfl (by kernel_rfl) ?_ ?_ ?_
    ·intro i hi
     match i, hi with
     | 0, _ | 1, _ | 2, _ | 3, _ => rfl
     | i + 4, h => exact absurd h (by omega)
    ·intro i p hi h
     refine ⟨fun _ _ => rfl, ?_⟩
     match i, hi, h with
     | 0, _, h | 1, _, h | 2, _, h => cases h
     | 3, _, h => cases h; exact fun z z' v ⟨g, h1, h2, h3⟩ hb => ⟨g, h1, h2, (hb.block g (Array.getElem?_eq_some_iff.1 h3).1).trans h3⟩
     | i + 4, h, _ => exact absurd h (by omega)
    ·intro i hi b z hfr hbz hD hO K hK
     have e7 : RegionOwn.T b 7 = .pointer (some ⟨wc.heap.size, 0, none⟩) := hfr.at (by kernel_rfl) rfl
     have e9 : RegionOwn.T b 9 = .pointer (some ⟨Bt, 0, none⟩) := hfr.at (by kernel_rfl) rfl
     match i, hi with
     | 0, _ =>
      have hc := Boxed.cell ((hbz.block _ HG7.out.1.lt).trans HG7.out.1)
      refine RegionOwn.quiet rfl rfl hK rfl rfl ?_
      clear hK hD hfr hO
      unfold RegionOwn.T at e7
      go_simp
     | 1, _ =>
      have hr := (hbz.block _ (Array.getElem?_eq_some_iff.1 HBy.out).1).trans HBy.out
      exact RegionOwn.quiet rfl rfl hK rfl rfl (RegionFact.run_load (p := .tmp 9) rfl Bt x.cs.toArray e9 51 (0, 0) _ hr Tryz.underlying51 rfl infoFi5)
     | 2, _ =>
      have q : RegionOwn.T b 36 = .agg x.cs.toArray := hD 1 36 (by decide) rfl (by kernel_rfl) (.inl rfl)
      refine RegionOwn.called (f := 31) (args := #[.agg x.cs.toArray]) rfl rfl hK rfl ?_ ((HGn.out z).mono fun e z' ⟨he, hb⟩ => ⟨_, he, hb, rfl⟩)
      clear hK hD hfr hO
      unfold RegionOwn.T at q
      go_simp
     | 3, _ =>
      have q : RegionOwn.T b 37 = .agg #[.int .i64 (gon x).kind, .string ⟨(gon x).path.toArray⟩, .string (gon x).dg] := hD 2 37 (by decide) rfl (by kernel_rfl) (.inl rfl)
      refine RegionOwn.made (ob := .cells #[.int .i64 (gon x).kind, .string ⟨(gon x).path.toArray⟩, .string (gon x).dg] 37) (v := .slice (some ⟨z.heap.size, 0, none⟩) 1 1) rfl rfl hK ⟨z.heap.size, rfl, hbz.size, heap_alloc_new _ _⟩ (fun g h => by simp [Value.ownBlock] at h; omega) ?_
      clear hK hD hfr hO
      unfold RegionOwn.T at q
      have q' := q
      rw [Array.getD_eq_getD_getElem?] at q'
      go_simp
     | i + 4, h => exact absurd h (by omega)
    ·intro b z hfr hbz hD
     have q0 : RegionOwn.T b 35 = .slice va7 (goneOf want pl).length vc7 := hD 0 35 (by decide) rfl (fun i hi e => by cases e)
     obtain ⟨gq, q3, hgq, hrow⟩ : ∃ g, RegionOwn.T b 38 = .slice (some ⟨g, 0, none⟩) 1 1 ∧ y.heap.size ≤ g ∧ z.heap[g]? = some (.cells #[.int .i64 (gon x).kind, .string ⟨(gon x).path.toArray⟩, .string (gon x).dg] 37 (0, 0)) := hD 3 38 (by decide) rfl (fun i hi e => by cases e)
     have e7 : RegionOwn.T b 7 = .pointer (some ⟨wc.heap.size, 0, none⟩) := hfr.at (by kernel_rfl) rfl
     have hl94 : List.range 94 = [0, 1, 2, 3, 4, 5, 6, 7, 8, 9, 10, 11, 12, 13, 14, 15, 16, 17, 18, 19, 20, 21, 22, 23, 24, 25, 26, 27, 28, 29, 30, 31, 32, 33, 34, 35, 36, 37, 38, 39, 40, 41, 42, 43, 44, 45, 46, 47, 48, 49, 50, 51, 52, 53, 54, 55, 56, 57, 58, 59, 60, 61, 62, 63, 64, 65, 66, 67, 68, 69, 70, 71, 72, 73, 74, 75, 76, 77, 78, 79, 80, 81, 82, 83, 84, 85, 86, 87, 88, 89, 90, 91, 92, 93] := by decide
     have hdf : b.defers = [] := hfr.defers
     have HK2 := hide hbz
     have HR := hide hrow
     have HQ := hide hgq
     have HG2 : Hid (Boxed z wc.heap.size 29 (.slice va7 (goneOf want pl).length vc7) ∧ z.ownsRow wc.heap.size 37 3 (.slice va7 (goneOf want pl).length vc7) (goneOf want pl).length ((goneOf want pl).flatMap Pt.cs)) := ⟨(hbz.block _ HG7.out.1.lt).trans HG7.out.1, Go.Mov.own_kept HG7.out.2.1 (fun q hq => hbz.block q (HG7.out.2.1.lt q hq).2)⟩
     have hwz2 : wc.heap.size ≤ z.heap.size := Nat.le_of_lt (Nat.lt_of_lt_of_le HG7.out.1.lt hbz.size)
     rw [RegionOwn.act_lit b 94 (hfr.size.trans rfl), hl94, hdf]
     simp only [List.map_cons, List.map_nil, List.drop_succ_cons, List.drop_zero, q0, q3, e7]
     clear hD hfr hl94 hdf e7 q0 q3 hbz hrow hgq
     refine AppendSz.wpList_append_sz rfl _ _ 29 rfl wc.heap.size 37 ti (.agg #[.int .i64 0, .string ⟨#[]⟩, .string ⟨#[]⟩]) 3 40 Tryz.underlying29 HTI.out.1 HTI.out.2.1 HTI.out.2.2.1 HTI.out.2.2.2 rfl (by decide) _ _ _ rfl HG2.out.2 ⟨gq, 0, none⟩ 1 1 (gon x).cs rfl rfl (fun j u hj => by rw [Addr.add_mid, Nat.zero_add, cell_of_row _ _ _ _ _ _ HR.out, ← Array.getElem?_toList]; exact hj) (pt_one _) (by unfold maxLen; omega) (by omega) hwz2 ?_
     intro v' w3' hown' hg3 hat
     obtain ⟨g', cap', rfl⟩ := ownsRow_succ hown'
     have hc3 := Boxed.cell (HG2.out.1.kept hg3 (HG2.out.1.not_row (by decide) HG2.out.2))
     have hf3 := Boxed.frozen (HG2.out.1.kept hg3 (HG2.out.1.not_row (by decide) HG2.out.2))
     have HYY := hide (And.intro hown' (And.intro hat hg3))
     clear hown' hg3 hat
     go_wp2_with fail
     obtain ⟨hown', hat, hg3⟩ := HYY.out
     obtain ⟨hb7, ho7, hS7⟩ := HG7.out
     have hb := HX.out
     have hy0 := HY0.out
     have hg5 := HGy.out.1.2
     have hv1 : Boxed w3' wc.heap.size 29 (.slice va7 (goneOf want pl).length vc7) := HG2.out.1.kept hg3 (HG2.out.1.not_row (by decide) HG2.out.2)
     have hsz : W.heap.size ≤ z.heap.size := Nat.le_trans HY.out.size HK2.out.size
     have hlow : ∀ q, q < W.heap.size → q ≠ wc.heap.size → some q ≠ (Value.slice va7 (goneOf want pl).length vc7).ownBlock → (w3'.setCell ⟨wc.heap.size, 0, none⟩ (.slice (some ⟨g', 0, none⟩) ((goneOf want pl).length + 1) cap')).heap[q]? = W.heap[q]? := fun q h1 h2 h3 =>
      (heap_setCell_other _ _ _ _ h2).trans ((hg3.block q (Nat.lt_of_lt_of_le h1 hsz) h3).trans ((HK2.out.block q (Nat.lt_of_lt_of_le h1 HY.out.size)).trans (HY.out.block q h1)))
     have hS3 : ∀ q, q = bx ∨ q = gc → (w3'.setCell ⟨wc.heap.size, 0, none⟩ (.slice (some ⟨g', 0, none⟩) ((goneOf want pl).length + 1) cap')).heap[q]? = W.heap[q]? := fun q hq => hlow q (by rcases hq with rfl | rfl <;> omega) (by rcases hq with rfl | rfl <;> omega) (fun e => hS7 q e.symm hq)
     have hzs : W.heap.size ≤ (w3'.setCell ⟨wc.heap.size, 0, none⟩ (.slice (some ⟨g', 0, none⟩) ((goneOf want pl).length + 1) cap')).heap.size := by simp; exact Nat.le_trans hsz hg3.size
     refine ⟨⟨hzs, fun q o hq hqo hno => ?_⟩, ⟨hzs, hS3 bx (.inl rfl), hS3 gc (.inr rfl)⟩, ?_⟩
     ·have hql := (Array.getElem?_eq_some_iff.1 hqo).1
      have hy := (HY.out.block q hql).trans hqo
      refine (hlow q hql (fun e => ?_) (fun e => ?_)).trans hqo
      ·subst e
       have h9 : y.heap[wc.heap.size]? = _ := hb7
       rw [hy] at h9
       cases h9
       cases hno
      ·rcases ho7.2 with ⟨e1, _⟩ | ⟨j, cap, cur, e1, _, h3, _⟩
       ·rw [e1] at e; cases e
       ·rw [e1] at e
        have : q = j := by injection e
        subst this
        rw [hy] at h3
        cases h3
        cases hno
     ·show Gp _ _ _ _ (goneOf want ((pre ++ [(⟨(k, x), hx⟩ : Bf fun f => f.path.length ≤ 1000)]).map (·.1.2))) _
      rw [HE1.out, HS2.out]
      refine ⟨⟨⟨_, hv1.set _, ?_, fun q hq hS => ?_⟩, ?_⟩, by omega⟩
      ·have h9 := hown'.kept (grownBy_setCell' w3' wc.heap.size (.slice (some ⟨g', 0, none⟩) ((goneOf want pl).length + 1) cap')) (.inr (hv1.not_row (by decide) hown').symm)
       rw [List.length_append, List.flatMap_append]
       simpa using h9
      ·rcases hat with e | e
       ·rw [e] at hq; exact hS7 q hq hS
       ·rw [e] at hq
        have : z.heap.size = q := by injection hq
        rcases hS with rfl | rfl <;> omega
      ·have h1 : Below wc.heap.size wc z := hg5.trans (HK2.out.mono hg5.size)
       exact (h1.grown hg3 h1.size (fun j e => (HG2.out.2.lt j e).1)).setCell (p := ⟨wc.heap.size, 0, none⟩) (Nat.le_refl _) _
 case done =>
  rintro D xs W hD hxs hGp hK
  subst hA
  have e0 : xs.map (·.1.2) = now.reverse := hxs
  rw [e0] at hGp
  obtain ⟨⟨⟨v7, b1, b2, b3⟩, b4⟩, b5⟩ := hGp
  have HW1 := hide (HOw.out W (HC.out.1.trans (b4.mono HC.out.1.size)))
  have HWK := hide (And.intro b1 (And.intro b2 (And.intro b3 (And.intro b4 (And.intro b5 (And.intro hK hD))))))
  have c7 := b1.cell
  clear hD hxs hK b1 b2 b3 b4 b5 e0 HOw HVs HG0
  dsimp only
  go_upto_region 10 with (go_at_call 29; refine HW1.out.mono ?_; rintro r w9 ⟨vo, rfl, ho⟩; obtain ⟨oa, oc, rfl⟩ := ho.form; have O9 := hide ho; clear ho HW1)
  obtain ⟨S, hS1, hS2, hS3, hL0⟩ : ∃ S : Nat → Prop, (∀ q, S q → q < w9.heap.size ∧ q ≠ wc.heap.size) ∧ S D ∧ (∀ q, (Value.slice oa want.length oc).ownBlock = some q → S q) ∧ Lq wc.heap.size wc w9 S (goneOf want now.reverse ++ betB now (want.take 0)) (betC now (want.take 0)) v7 (.slice none 0 0) w9 := by
   obtain ⟨b1, b2, b3, b4, b5, hK, hD⟩ := HWK.out
   have hx := HX.out
   have hDl : D < W.heap.size := (Array.getElem?_eq_some_iff.1 hK).1
   have k9 := O9.out.below
   have hl9 := O9.out.own.lt
   have e0 : goneOf want now.reverse ++ betB now (want.take 0) = goneOf want now.reverse := by simp [betB]
   refine ⟨fun q => q = D ∨ (Value.slice oa want.length oc).ownBlock = some q, fun q hq => ?_, .inl rfl, fun q hq => .inr hq, ?_⟩
   ·rcases hq with rfl | hq
    ·exact ⟨Nat.lt_of_lt_of_le hDl k9.size, by omega⟩
    ·have := hl9 q hq; exact ⟨this.2, by omega⟩
   ·rw [e0]
    refine ⟨(k9.block _ b1.lt).trans b1, Go.Mov.own_kept b2 (fun q hq => k9.block q (b2.lt q hq).2), b4.trans (k9.mono b4.size), ⟨rfl, .inl ⟨rfl, rfl⟩⟩, fun q _ e => (by cases e), fun q hq => ⟨rfl, fun e => ?_⟩, Nat.le_refl _⟩
    rcases hq with rfl | hq
    ·rcases b2.2 with ⟨e2, _⟩ | ⟨j, cap, cur, e2, _, h3, _⟩
     ·rw [e2] at e; cases e
     ·rw [e2] at e
      have hj : j = q := by injection e
      rw [hj, hK] at h3
      cases h3
    ·have := (hl9 q hq).1
     have := (b2.lt q e).2
     omega
  have HS := hide (And.intro hS1 (And.intro hS2 hS3))
  have HL0 := hide hL0
  have hB9 : wc.heap.size < w9.heap.size := Nat.lt_of_lt_of_le HWK.out.1.lt O9.out.below.size
  have HB9 := hide hB9
  have HR9 := hide (O9.out.rows Fi.cs_length)
  clear hS1 hS2 hS3 hL0 hB9 c7
  go_loopw [12, 43] (fun v12 v43 wr => ∃ (i : Nat) (v7 : Value), v43 = .int .i64 i ∧ i ≤ want.length ∧ Hid (Lq wc.heap.size wc w9 S (goneOf want now.reverse ++ betB now (want.take i)) (betC now (want.take i)) v7 v12 wr)) (fun _ v43 _ => want.length - (intOf v43).toNat)
  case atStart => exact ⟨0, _, rfl, Nat.zero_le _, HL0.out⟩
  case round =>
   obtain ⟨i, u7, rfl, hi, HI⟩ := hrel
   clear HL0
   have h0 : (0 : Int) ≤ i := by omega
   by_cases hil : i < want.length
   ·obtain ⟨f, hf⟩ : ∃ f, want[i]? = some f := ⟨_, List.getElem?_eq_getElem hil⟩
    have hR : RowsAt Fi.cs 5 wr (.slice oa want.length oc) want := HR9.out.kept HI.out.2.2.2.2.2.2 (fun q hq => (HI.out.2.2.2.2.2.1 q (HS.out.2.2 q hq)).1)
    obtain ⟨g1, o1, e1, q1, cx, l1, r1⟩ := hR.at (fun e => by rw [e] at hf; cases hf)
    subst e1
    have hc1 : (want.length : Int) ≤ oc := by omega
    have hiI : (i : Int) < want.length := by omega
    have HRG := hide (r1 i f hf)
    have hfp := HP.out.2 f (List.mem_of_getElem? hf)
    obtain ⟨kl, hkl⟩ := plKey (pk f) hfp
    obtain ⟨zc, hgot, hnew⟩ := got_now now f
    obtain ⟨is, his⟩ : ∃ is, is = Pln.has now f := ⟨_, rfl⟩
    rw [← his] at hgot hnew
    have HT1 : Hid (betB now (want.take (i + 1)) = betB now (want.take i) ++ (if f.dir && !is then [mkd f] else []) ∧ betC now (want.take (i + 1)) = betC now (want.take i) ++ (if !f.dir && (!is || !(zc.dg.toList == f.dg.toList)) then [Pln.put f] else [])) := by
     show _ ∧ _
     rw [List.take_add_one, hf, Option.toList_some, betB_snoc, betC_snoc]
     unfold isB isC
     rw [hnew, ← his]
     exact ⟨rfl, rfl⟩
    have HLen : Hid ((goneOf want now.reverse ++ betB now (want.take i)).length ≤ 2000 ∧ (betC now (want.take i)).length ≤ 1000) := by
     have h1 := betB_len now (want.take i)
     have h2 := betC_len now (want.take i)
     have h3 : (goneOf want now.reverse).length ≤ now.length := by
      unfold goneOf
      rw [List.length_map]
      exact Nat.le_trans (List.length_filter_le _ _) (Nat.le_of_eq List.length_reverse)
     rw [List.length_take] at h1 h2
     show _ ∧ _
     rw [List.length_append]
     omega
    have hMn : MapPl now.length wr mn (lkP now) := HC.out.2.2.1.below HC.out.2.2.1.lt HI.out.2.2.1
    have HLk := hide (fun (y : World) (ky : Below wr.heap.size wr y) => (hMn.below hMn.lt ky).look plKeyed plUnder (zeroFi y) true (pk f) hkl)
    rw [hgot] at HLk
    have HPf := hide (fun v => placeOf_any f v)
    unfold Fi.cs at HPf HLk
    have HB : Hid ((wr.alloc (.cells #[.string ⟨f.path.toArray⟩, .bool f.dir, .int .u64 f.id, .string f.dg, .int .i64 f.size] 51)).heap[wr.heap.size]? = some (.cells #[.string ⟨f.path.toArray⟩, .bool f.dir, .int .u64 f.id, .string f.dg, .int .i64 f.size] 51 (0, 0)) ∧ Below wr.heap.size wr (wr.alloc (.cells #[.string ⟨f.path.toArray⟩, .bool f.dir, .int .u64 f.id, .string f.dg, .int .i64 f.size] 51))) := ⟨heap_alloc_new _ _, (Below.refl _ _).alloc (Nat.le_refl _) _⟩
    clear hf r1 l1 q1 cx hkl hfp hR hMn hgot hnew his
    go_upto_region 12 with (refine wpList_load_mid rfl 51 _ rfl g1 (o1 + i * 5) rfl f.cs _ HRG.out Tryz.underlying51 rfl infoFi5 ?_; simp only [Fi.cs])
    generalize wr.alloc (.cells #[.string ⟨f.path.toArray⟩, .bool f.dir, .int .u64 f.id, .string f.dg, .int .i64 f.size] 51) = W1 at *
    clear HRG
    go_upto_region 13 with (first
     | (refine wpList_load_row rfl 51 _ rfl _ rfl _ _ _ _ HB.out.1 Tryz.underlying51 rfl infoFi5 ?_)
     | (go_at_call 30; refine (HPf.out _).mono ?_; rintro e w2 ⟨rfl, hb⟩; have hlk : (Instr.lookup 83 (.map (some mn)) (.agg #[.string ⟨f.path.toArray⟩, .bool f.dir]) true).run Tryz.prog w2 = .ok (.tuple #[.agg #[.string ⟨zc.path.toArray⟩, .bool zc.dir, .int .u64 zc.id, .string zc.dg, .int .i64 zc.size], .bool is]) w2 := HLk.out w2 (HB.out.2.trans (hb.mono HB.out.2.size)); have HK2 := hide hb; clear hb))
    clear HPf HLk
    have k3 := (Below.refl w2.heap.size w2).alloc (Nat.le_refl _) (.cells #[.string ⟨zc.path.toArray⟩, .bool zc.dir, .int .u64 zc.id, .string zc.dg, .int .i64 zc.size] 51)
    have HB3 : Hid ((w2.alloc (.cells #[.string ⟨zc.path.toArray⟩, .bool zc.dir, .int .u64 zc.id, .string zc.dg, .int .i64 zc.size] 51)).heap[wr.heap.size]? = some (.cells #[.string ⟨f.path.toArray⟩, .bool f.dir, .int .u64 f.id, .string f.dg, .int .i64 f.size] 51 (0, 0)) ∧ (w2.alloc (.cells #[.string ⟨zc.path.toArray⟩, .bool zc.dir, .int .u64 zc.id, .string zc.dg, .int .i64 zc.size] 51)).heap[w2.heap.size]? = some (.cells #[.string ⟨zc.path.toArray⟩, .bool zc.dir, .int .u64 zc.id, .string zc.dg, .int .i64 zc.size] 51 (0, 0))) := by
     have hl := (Array.getElem?_eq_some_iff.1 HB.out.1).1
     exact ⟨(k3.block _ (Nat.lt_of_lt_of_le hl HK2.out.size)).trans ((HK2.out.block _ hl).trans HB.out.1), heap_alloc_new _ _⟩
    have kw2 : Below wr.heap.size wr w2 := HB.out.2.trans (HK2.out.mono HB.out.2.size)
    have HL3 := hide (HI.out.step HB9.out HS.out.1 (kw2.trans (k3.mono kw2.size)))
    generalize w2.alloc (.cells #[.string ⟨zc.path.toArray⟩, .bool zc.dir, .int .u64 zc.id, .string zc.dg, .int .i64 zc.size] 51) = W3 at *
    generalize w2.heap.size = B15 at *
    generalize wr.heap.size = B14 at *
    have c0 : W3.cell? ⟨B14, 0, none⟩ = some (.string ⟨f.path.toArray⟩) := (cell_of_row _ _ _ _ _ _ HB3.out.1).trans rfl
    have c1 : W3.cell? ⟨B14, 1, none⟩ = some (.bool f.dir) := (cell_of_row _ _ _ _ _ _ HB3.out.1).trans rfl
    have c3 : W3.cell? ⟨B14, 3, none⟩ = some (.string f.dg) := (cell_of_row _ _ _ _ _ _ HB3.out.1).trans rfl
    have d3 : W3.cell? ⟨B15, 3, none⟩ = some (.string zc.dg) := (cell_of_row _ _ _ _ _ _ HB3.out.2).trans rfl
    clear k3 kw2 HK2 HB hlk
    have c7 := HL3.out.1.cell
    obtain ⟨ti, hti, htz, hts, htb⟩ := info_of infoPt3
    have HTI := hide (And.intro hti (And.intro htz (And.intro hts htb)))
    clear hti htz hts htb
    cases hd : f.dir with
    | true =>
     rw [hd] at c1 HT1
     cases is with
     | true =>
      go_wp2_with fail
      go_roundw
      case rel =>
       have h1 := HT1.out
       simp at h1
       exact ⟨i + 1, _, by simp, by omega, by rw [h1.1, h1.2]; exact HL3.out⟩
      case measure => simp [intOf]; omega
     | false =>
      have HLs : Hid (Lq wc.heap.size wc w9 S (goneOf want now.reverse ++ betB now (want.take i)) (betC now (want.take i)) u7 u12 (W3.alloc (.cells #[.int .i64 3, .string ⟨f.path.toArray⟩, .string ⟨#[]⟩] 37))) := HL3.out.step HB9.out HS.out.1 ((Below.refl _ W3).alloc (Nat.le_refl _) _)
      go_wp2_with (refine AppendSz.wpList_append_sz rfl _ _ 29 rfl wc.heap.size 37 ti (.agg #[.int .i64 0, .string ⟨#[]⟩, .string ⟨#[]⟩]) 3 40 Tryz.underlying29 HTI.out.1 HTI.out.2.1 HTI.out.2.2.1 HTI.out.2.2.2 rfl (by decide) _ _ _ rfl HLs.out.2.1 ⟨_, 0, none⟩ 1 1 (mkd f).cs rfl rfl (row_news _ (mkd f).cs _) (pt_one _) (by have := HLen.out.1; unfold maxLen; omega) (by have := HLen.out.1; omega) (by have := HLs.out.1.lt; have := HLs.out.2.2.2.2.2.2; omega) ?_; intro v' wa hown hg3 hat; obtain ⟨ga, ca, rfl⟩ := ownsRow_succ hown; have hv1 : Boxed wa wc.heap.size 29 u7 := HLs.out.1.kept hg3 (HLs.out.1.not_row (by decide) HLs.out.2.1); have cc := hv1.cell; have cf := hv1.frozen; have HP7 := hide (Lq.push7 HB9.out HS.out.1 HLs.out (s := mkd f) hown hg3 hat); clear hv1; clear hown hg3 hat)
      go_roundw
      case rel =>
       have h1 := HT1.out
       simp at h1
       have h2 := HP7.out
       rw [List.length_append] at h2
       exact ⟨i + 1, _, by simp, by omega, by rw [h1.1, h1.2, ← List.append_assoc]; exact h2⟩
      case measure => simp [intOf]; omega
    | false =>
     rw [hd] at c1 HT1
     cases is with
     | false =>
      have HLs : Hid (Lq wc.heap.size wc w9 S (goneOf want now.reverse ++ betB now (want.take i)) (betC now (want.take i)) u7 u12 (W3.alloc (.cells #[.int .i64 4, .string ⟨f.path.toArray⟩, .string f.dg] 37))) := HL3.out.step HB9.out HS.out.1 ((Below.refl _ W3).alloc (Nat.le_refl _) _)
      go_wp2_with (refine AppendSz.wpList_append_sz rfl _ _ 29 rfl w9.heap.size 37 ti (.agg #[.int .i64 0, .string ⟨#[]⟩, .string ⟨#[]⟩]) 3 40 Tryz.underlying29 HTI.out.1 HTI.out.2.1 HTI.out.2.2.1 HTI.out.2.2.2 rfl (by decide) _ _ _ rfl HLs.out.2.2.2.1 ⟨_, 0, none⟩ 1 1 (Pln.put f).cs rfl rfl (row_news _ (Pln.put f).cs _) (pt_one _) (by have := HLen.out.2; unfold maxLen; omega) (by have := HLen.out.2; omega) (by have := HLs.out.1.lt; have := HLs.out.2.2.2.2.2.2; omega) ?_; intro v' wa hown hg3 hat; have HP7 := hide (Lq.push12 HB9.out HS.out.1 HLs.out (s := Pln.put f) hown hg3 hat); clear hown hg3 hat)
      go_roundw
      case rel =>
       have h1 := HT1.out
       simp at h1
       exact ⟨i + 1, _, by simp, by omega, by rw [h1.1, h1.2]; exact HP7.out⟩
      case measure => simp [intOf]; omega
     | true =>
      cases hg : (zc.dg.toList == f.dg.toList) with
      | true =>
       rw [hg] at HT1
       go_wp2_with fail
       go_roundw
       case rel =>
        have h1 := HT1.out
        simp at h1
        exact ⟨i + 1, _, by simp, by omega, by rw [h1.1, h1.2]; exact HL3.out⟩
       case measure => simp [intOf]; omega
      | false =>
       rw [hg] at HT1
       have HLs : Hid (Lq wc.heap.size wc w9 S (goneOf want now.reverse ++ betB now (want.take i)) (betC now (want.take i)) u7 u12 (W3.alloc (.cells #[.int .i64 4, .string ⟨f.path.toArray⟩, .string f.dg] 37))) := HL3.out.step HB9.out HS.out.1 ((Below.refl _ W3).alloc (Nat.le_refl _) _)
       go_wp2_with (refine AppendSz.wpList_append_sz rfl _ _ 29 rfl w9.heap.size 37 ti (.agg #[.int .i64 0, .string ⟨#[]⟩, .string ⟨#[]⟩]) 3 40 Tryz.underlying29 HTI.out.1 HTI.out.2.1 HTI.out.2.2.1 HTI.out.2.2.2 rfl (by decide) _ _ _ rfl HLs.out.2.2.2.1 ⟨_, 0, none⟩ 1 1 (Pln.put f).cs rfl rfl (row_news _ (Pln.put f).cs _) (pt_one _) (by have := HLen.out.2; unfold maxLen; omega) (by have := HLen.out.2; omega) (by have := HLs.out.1.lt; have := HLs.out.2.2.2.2.2.2; omega) ?_; intro v' wa hown hg3 hat; have HP7 := hide (Lq.push12 HB9.out HS.out.1 HLs.out (s := Pln.put f) hown hg3 hat); clear hown hg3 hat)
       go_roundw
       case rel =>
        have h1 := HT1.out
        simp at h1
        exact ⟨i + 1, _, by simp, by omega, by rw [h1.1, h1.2]; exact HP7.out⟩
       case measure => simp [intOf]; omega
   ·have hie : i = want.length := by omega
    subst hie
    have hiI : ¬ (want.length : Int) < want.length := by omega
    rw [List.take_length] at HI
    have c7 := HI.out.1.cell
    obtain ⟨ti, hti, htz, hts, htb⟩ := info_of infoPt3
    have HTI := hide (And.intro hti (And.intro htz (And.intro hts htb)))
    have HLen : Hid ((goneOf want now.reverse ++ betB now want).length ≤ 2000 ∧ (betC now want).length ≤ 1000) := by
     have h1 := betB_len now want
     have h2 := betC_len now want
     have h3 : (goneOf want now.reverse).length ≤ now.length := by
      unfold goneOf
      rw [List.length_map]
      exact Nat.le_trans (List.length_filter_le _ _) (Nat.le_of_eq List.length_reverse)
     show _ ∧ _
     rw [List.length_append]
     omega
    clear hti htz hts htb
    go_wp2_with (refine AppendSz.wpList_append_holds rfl _ _ 29 rfl wc.heap.size 37 ti (.agg #[.int .i64 0, .string ⟨#[]⟩, .string ⟨#[]⟩]) 3 40 Tryz.underlying29 HTI.out.1 HTI.out.2.1 HTI.out.2.2.1 HTI.out.2.2.2 rfl (by decide) _ _ _ rfl HI.out.2.1 (betC now want).length ((betC now want).flatMap Pt.cs) (RegionOwn.Holds.of_own HI.out.2.2.2.1) (pts_one _) (by have := HLen.out; unfold maxLen; omega) (by have := HLen.out; omega) (Nat.le_of_lt HI.out.1.lt) ?_; intro v' wa hown hg3; have HF := hide (And.intro hown hg3); clear hown hg3)
    obtain ⟨hown, hg3⟩ := HF.out
    have hKD := HWK.out.2.2.2.2.2.1
    have hDl : D < W.heap.size := (Array.getElem?_eq_some_iff.1 hKD).1
    have hDr : D < wr.heap.size := Nat.lt_of_lt_of_le (HS.out.1 D HS.out.2.1).1 HI.out.2.2.2.2.2.2
    have e1 : wa.heap[D]? = some (.deferred (some [])) := (hg3.block D hDr fun e => (HI.out.2.2.2.2.2.1 D HS.out.2.1).2 e.symm).trans ((HI.out.2.2.2.2.2.1 D HS.out.2.1).1.trans ((O9.out.below.block D hDl).trans hKD))
    refine ⟨by simp, .inl ⟨_, _, rfl, run_takeDeferred e1, ?_⟩⟩
    refine ⟨v', by simp [results, Tryz.f9, go_sem], _, rfl, ?_⟩
    have hwc : w.heap.size ≤ wc.heap.size := HC.out.1.size
    have hbw : Below wc.heap.size wc wa := HI.out.2.2.1.grown hg3 (Nat.le_of_lt HI.out.1.lt) (fun j e => (HI.out.2.1.lt j e).1)
    have hO : OwnR Pt.cs 3 37 w v' (betw now want) wa := by
     refine ⟨?_, HC.out.1.trans (hbw.mono hwc)⟩
     have e9 : betw now want = (goneOf want now.reverse ++ betB now want) ++ betC now want := rfl
     rw [e9, List.flatMap_append, List.length_append (bs := betC now want)]
     exact own_low hown hwc
    refine hO.kept (fun q hq => ?_) (hO.below.grown (grownBy_putObj' _ D (.deferred none)) hO.below.size (fun j e => by cases e; have := HX.out; have := HWK.out.2.2.2.2.2.2; omega))
    have hqD : q ≠ D := fun e => by
     rw [e] at hq
     rcases hO.own.2 with ⟨e2, _⟩ | ⟨j, cap, cur, e2, _, h3, _⟩
     ·rw [e2] at hq; cases hq
     ·rw [e2] at hq
      have hj : j = D := by injection hq
      rw [hj, e1] at h3
      cases h3
    exact putObj_other (fun e => hqD (by first | exact e | exact e.symm))
 case stop => exact fun D c pre W hD _ h _ => h.elim
end Go.Proofs.YtnbhchdaobimmaaGreatDoor
