/- Single operations of a region by RegionOwn: one that leaves the world alone, one that makes a block, append, a call; of no program. -/
import Derived.Test.YtpihgffcfoelbaaDoorRegionOwn
import Derived.Laws.OwnMore
namespace Go.RegionOwn
open Go.RowKit
variable {P : Program} {ops : Array Oper} {Q : Exit → Act → World → Prop} {m : Nat} {sp : Spec} {b : Act} {x : World} {i : Nat} {K : Act → World → Prop} {o : Oper}
/-- What is asked behind operation i. -/
def Then (ops : Array Oper) (m : Nat) (sp : Spec) (b : Act) (i : Nat) (x : World) (K : Act → World → Prop) : Prop :=
  ∀ v y row, x.grownBy y row → (∀ g, row = some g → Mine ops m sp b i g) → sp.F i y v → (sp.own i ≠ none → ∀ g, v.ownBlock = some g → x.heap.size ≤ g ∨ Mine ops m sp b i g) → K (b.put (dstOf ops i) v) y
theorem dst_of (ho : ops[i]? = some o) : dstOf ops i = o.dst := by unfold dstOf; rw [ho]; rfl
theorem wpOp_value {v : Value} {y : World} (ho : ops[i]? = some o) (hg : o.guard = none) (hr : (execOp b.eval o).run P x = .ok (.value v) y) (h : K (b.put (dstOf ops i) v) y) : wpOp P ops Q i K b x := by
  rw [dst_of ho] at h
  unfold wpOp
  simp only [ho]
  rw [if_pos (by simp [Region.wanted, hg])]
  left
  unfold Oper.wp
  rw [hr]
  exact h
theorem quiet {v : Value} (ho : ops[i]? = some o) (hg : o.guard = none) (hK : Then ops m sp b i x K) (hno : sp.own i = none) (hF : sp.F i x v) (hr : (execOp b.eval o).run P x = .ok (.value v) x) : wpOp P ops Q i K b x :=
  wpOp_value ho hg hr (hK v x none ⟨rfl, rfl, rfl, Nat.le_refl _, fun _ _ _ => rfl⟩ (fun _ h => by cases h) hF (fun h => absurd hno h))
theorem made {v : Value} {ob : Obj} (ho : ops[i]? = some o) (hg : o.guard = none) (hK : Then ops m sp b i x K) (hF : sp.F i (x.alloc ob) v) (hb : ∀ g, v.ownBlock = some g → x.heap.size ≤ g) (hr : (execOp b.eval o).run P x = .ok (.value v) (x.alloc ob)) : wpOp P ops Q i K b x :=
  wpOp_value ho hg hr (hK v _ none (World.grownBy_alloc x ob none) (fun _ h => by cases h) hF (fun _ g h => .inl (hb g h)))
theorem called {f : FuncId} {args : Array Value} (ho : ops[i]? = some o) (hg : o.guard = none) (hK : Then ops m sp b i x K) (hno : sp.own i = none)
    (hr : (execOp b.eval o).run P x = .ok (.enter f args) x) (hc : Calls P f args x fun e y => ∃ v, e = .returned v ∧ Below x.heap.size x y ∧ sp.F i y v) : wpOp P ops Q i K b x := by
  unfold wpOp
  simp only [ho]
  rw [if_pos (by simp [Region.wanted, hg])]
  left
  unfold Oper.wp
  rw [hr]
  refine Calls.mono hc ?_
  rintro e y ⟨v, rfl, hb, hF⟩
  have := hK v y none ⟨hb.os, hb.tape, hb.output, hb.size, fun k hk _ => hb.block k hk⟩ (fun _ h => by cases h) hF (fun h => absurd hno h)
  rw [dst_of ho] at this
  exact this
/-- A slice that holds n elements of k cells: these cells. -/
def Holds (w : World) (v : Value) (k n : Nat) (xs : List Value) : Prop :=
  xs.length = n * k ∧ ((v = .slice none 0 0 ∧ n = 0) ∨ ∃ ad cap, v = .slice (some ad) n cap ∧ ∀ j u, xs[j]? = some u → w.cell? (ad.add j) = some u)
theorem Holds.of_own {base e k n : Nat} {v : Value} {xs : List Value} (h : x.ownsRow base e k v n xs) : Holds x v k n xs := by
  refine ⟨h.1, ?_⟩
  rcases h.2 with h' | ⟨g, cap, cur, rfl, _⟩
  · exact .inl h'
  · exact .inr ⟨⟨g, 0, none⟩, cap, rfl, h.cells (g := g) rfl⟩
/-- append to a row that is owned till then. -/
theorem appended {d e t el : Nat} (ho : ops[i]? = some o) (hg : o.guard = none) (hK : Then ops m sp b i x K)
    (hop : o.op = .call { callee := .builtin .append, args := #[.tmp d, .tmp e], argTypes := #[t, t] })
    (ti : TypeInfo) (z : Value) (size bytes : Nat) (ht : P.underlying t = some (.slice el)) (hi : P.info? el = some ti) (hz : ti.zero = some z) (hsize : ti.size = size) (hby : ti.bytes = bytes) (hzs : z.cells.size = size) (hsz : 0 < size)
    {base n k j : Nat} {xs ys : List Value} (hj : j < m) (hd : dstOf ops j = some d) (hoj : sp.own j = some i) (hown : x.ownsRow base el size (T b d) n xs) (hbase : base ≤ x.heap.size)
    (hsrc : Holds x (T b e) size k ys) (hone : ∀ u ∈ ys, u.oneCell' = true) (h63 : n + k ≤ maxLen) (hbytes : (n + k) * bytes ≤ 140737488355328)
    (hF : ∀ v y, y.ownsRow base el size v (n + k) (xs ++ ys) → sp.F i y v) : wpOp P ops Q i K b x := by
  have hmine : ∀ g, (T b d).ownBlock = some g → Mine ops m sp b i g := fun g h => ⟨j, d, hj, hd, hoj, h⟩
  have key : ∃ v y, (Builtin.append_ #[t, t] o.type #[T b d, T b e]).run P x = .ok v y ∧ y.ownsRow base el size v (n + k) (xs ++ ys) ∧ x.grownBy y (T b d).ownBlock ∧ ∀ g, v.ownBlock = some g → x.heap.size ≤ g ∨ (T b d).ownBlock = some g := by
    rcases hsrc.2 with ⟨h1, h2⟩ | ⟨ad, cap, h1, h2⟩
    · subst h2
      have hys : ys = [] := List.eq_nil_of_length_eq_zero (by simpa using hsrc.1)
      subst hys
      rw [h1]
      exact ⟨_, _, run_append_owned_none (P := P) (w := x) base t o.type el ti size ht hi _ n xs hown, by simpa using hown, ⟨rfl, rfl, rfl, Nat.le_refl _, fun _ _ _ => rfl⟩, fun g h => .inr h⟩
    · rw [h1]
      obtain ⟨v, y, hr, h3, h4, _⟩ := run_append_own (P := P) x base t o.type el ti z size bytes ht hi hz hsize hby hzs hsz _ n xs hown ad k cap ys hsrc.1 h2 hone h63 hbytes hbase
      refine ⟨v, y, hr, h3, h4, ?_⟩
      subst hsize
      subst hby
      have hsmall : n + k ≤ 9223372036854775807 := by simp only [maxLen] at h63; omega
      rcases hown.2 with ⟨hv, hn⟩ | ⟨g0, cap0, cur, hv, hbg, hg0, hnc, hcm, hcs, htake⟩
      · rw [hv] at hr
        by_cases hk0 : k = 0
        · subst hk0
          have hys : ys = [] := List.eq_nil_of_length_eq_zero (by simpa using hsrc.1)
          have : (Builtin.append_ #[t, t] o.type #[.slice none 0 0, .slice (some ad) 0 cap]).run P x = .ok (.slice none 0 0) x := by simp [Builtin.append_, run_underlying ht, sizeOf, typeInfo, hi, Builtin.lenOf, Builtin.firstCells, loadCells, loadCellsFrom]
          rw [this] at hr
          cases hr
          intro g h
          cases h
        · have h5 := run_append_nil (P := P) x t o.type el ti z ht hi hz ad k cap ys hsrc.1 h2 (by omega) (by omega) (by rw [hn] at hbytes; simp only [Nat.zero_add] at hbytes; omega)
          rw [h5] at hr
          cases hr
          intro g h
          simp [Value.ownBlock] at h
          exact .inl (by omega)
      · rw [hv] at hr ⊢
        by_cases hroom : n + k ≤ cap0
        · have h5 := run_append_room (P := P) x t o.type el ti ht hi g0 n cap0 cur hg0 ad k cap ys hsrc.1 h2 hone hroom (by rw [hsrc.1, hcs, ← Nat.add_mul]; exact Nat.mul_le_mul_right _ hroom)
          rw [h5] at hr
          cases hr
          exact fun g h => .inr h
        · have h5 := run_append_grow (P := P) x t o.type el ti z ht hi hz ⟨g0, 0, none⟩ n cap0 xs hown.1 (hown.cells (g := g0) (by rw [hv]; rfl)) ad k cap ys hsrc.1 h2 (by omega) (by omega) (growslice_fits (by omega) hbytes)
          rw [h5] at hr
          cases hr
          intro g h
          simp [Value.ownBlock] at h
          exact .inl (by omega)
  obtain ⟨v, y, hr, h1, h2, h3⟩ := key
  refine wpOp_value (v := v) (y := y) ho hg ?_ (hK v y _ h2 hmine (hF v y h1) fun _ g h => (h3 g h).imp id (hmine g))
  unfold execOp
  simp only [hop, resolve, invoke, builtin, Sem.run_bind, Sem.run_pure, Result.andThen_ok, List.map_toArray, List.map_cons, List.map_nil, Act.eval]
  unfold T at hr
  rw [hr]
  rfl
theorem act_lit (b : Act) (n : Nat) (h : b.tmps.size = n) : b = ⟨((List.range n).map (T b)).toArray, b.defers⟩ := by
  obtain ⟨⟨l⟩, d⟩ := b
  subst h
  congr 1
  refine congrArg List.toArray (List.ext_getElem (by simp) fun k h1 h2 => ?_)
  simp only [List.getElem_map, List.getElem_range, T, Array.getD_eq_getD_getElem?]
  rw [List.getElem?_toArray, List.getElem?_eq_getElem h1]
  rfl
theorem list_skip {rest : List Oper} {y : World} (hg : o.guard = none) (hr : (execOp b.eval o).run P x = .ok .skip y) (h : wpList P ops Q rest (b.put o.dst undef) y) : wpList P ops Q (o :: rest) b x := by
  refine wpList_plain hg fun K hK => ?_
  unfold Oper.wp
  rw [hr]
  exact hK _ _ h
theorem list_value {rest : List Oper} {v : Value} {y : World} (hg : o.guard = none) (hr : (execOp b.eval o).run P x = .ok (.value v) y) (h : wpList P ops Q rest (b.put o.dst v) y) : wpList P ops Q (o :: rest) b x := by
  refine wpList_plain hg fun K hK => ?_
  unfold Oper.wp
  rw [hr]
  exact hK _ _ h
theorem own_form {w : World} {base e k n : Nat} {v : Value} {xs : List Value} (h : w.ownsRow base e k v n xs) : ∃ a c, v = .slice a n c := by
  rcases h.2 with ⟨h1, h2⟩ | ⟨g, cap, cur, h1, _⟩
  · exact ⟨none, 0, by rw [h2]; exact h1⟩
  · exact ⟨_, _, h1⟩
theorem grown_setCell (w : World) (g : Nat) (k : Nat) (v : Value) : w.grownBy (w.setCell ⟨g, k, none⟩ v) (some g) :=
  ⟨rfl, rfl, rfl, by simp [World.setCell], fun j _ hj => by
    simp only [World.setCell, Array.getElem?_modify]
    rw [if_neg (fun e => hj (by rw [e]))]⟩
/-- A row that was made with one element in it. -/
theorem made_one (w : World) (base e k : Nat) (cs : Array Value) (hb : base ≤ w.heap.size) (hk : cs.size = k) : (w.alloc (.cells cs e)).ownsRow base e k (.slice (some ⟨w.heap.size, 0, none⟩) 1 1) 1 cs.toList :=
  ⟨by simp [hk], .inr ⟨w.heap.size, 1, cs, rfl, hb, heap_alloc_new w _, Nat.le_refl _, by simp [maxLen], by simp [hk], by rw [Nat.one_mul, ← hk, ← Array.length_toList, List.take_length]⟩⟩
def freeB (ops : Array Oper) (m k : Nat) : Bool := (List.range m).all fun i => dstOf ops i != some k
theorem Fr.at {a b : Act} (h : Fr ops m a b) {k : Nat} {v : Value} (hk : freeB ops m k = true) (hv : T a k = v) : T b k = v := by
  rw [← hv]
  refine h.others k fun i hi e => ?_
  unfold freeB at hk
  have := List.all_eq_true.1 hk i (List.mem_range.2 hi)
  rw [e] at this
  simp at this
/-- What an operation leaves: this value; a row of its own until operation c; a value with this property. -/
abbrev Kd := Sum Value (Sum (Nat × List Value × Nat) (World → Value → Prop))
abbrev val (u : Value) : Kd := .inl u
abbrev row (n : Nat) (xs : List Value) (c : Nat) : Kd := .inr (.inl (n, xs, c))
abbrev fact (p : World → Value → Prop) : Kd := .inr (.inr p)
def Kown : Kd → Option Nat
  | .inr (.inl (_, _, c)) => some c
  | _ => none
def KF (base el size : Nat) (x : World) (v : Value) : Kd → Prop
  | .inl u => v = u
  | .inr (.inl (n, xs, _)) => x.ownsRow base el size v n xs
  | .inr (.inr p) => p x v
def specOf (base el size : Nat) (kind : Nat → Kd) : Spec := ⟨fun i x v => KF base el size x v (kind i), fun i => Kown (kind i)⟩
def ownB (ops : Array Oper) (m : Nat) (own : Nat → Option Nat) : Bool := (List.range m).all fun j => match own j with | some i => decide (m ≤ i) || waits ops i j | none => true
def ltB (ops : Array Oper) (m n : Nat) : Bool := (List.range m).all fun i => match dstOf ops i with | some d => decide (d < n) | none => true
/-- The region, told by kinds. -/
theorem regionK {id : Nat} {l : List Oper} {a : Act} {w : World} (m n el size : Nat) (kind : Nat → Kd) (own : Nat → Option Nat) (hkind : ∀ i, i < m → Kown (kind i) = own i) (hm : P.follows .mixedOrders = true) (hn : a.tmps.size = n)
    (hfit : (fitB l.toArray m && ownB l.toArray m own && ltB l.toArray m n) = true)
    (hfact : ∀ i p, i < m → kind i = fact p → (∀ j, j < m → own j = none) ∧ ∀ x y v, p x v → Below x.heap.size x y → p y v)
    (hstep : ∀ i, i < m → ∀ (b : Act) (x : World), Fr l.toArray m a b → Below w.heap.size w x →
      (∀ j d, j < m → dstOf l.toArray j = some d → waits l.toArray i j = true → (own j = none ∨ own j = some i) → KF w.heap.size el size x (T b d) (kind j)) →
      (∀ j d, j < m → dstOf l.toArray j = some d → waits l.toArray j i = true → T b d = T a d) →
      ∀ K : Act → World → Prop, Then l.toArray m (specOf w.heap.size el size kind) b i x K → wpOp P l.toArray Q i K b x)
    (hlast : ∀ (b : Act) (x : World), Fr l.toArray m a b → Below w.heap.size w x →
      (∀ j d, j < m → dstOf l.toArray j = some d → (∀ i, i < m → own j ≠ some i) → KF w.heap.size el size x (T b d) (kind j)) → wpList P l.toArray Q (l.drop m) b x) :
    (Code.region id l.toArray true).wp P Q a w := by
  simp only [Bool.and_eq_true] at hfit
  obtain ⟨⟨h1, h2⟩, h3⟩ := hfit
  have hml : m ≤ l.length := by
    unfold fitB at h1
    simp only [Bool.and_eq_true, decide_eq_true_eq] at h1
    simpa using h1.1.1.1
  refine region (specOf w.heap.size el size kind) hm h1 ?_ ?_ ?_ ?_ ?_ ?_
  · intro i d hi hd
    unfold ltB at h3
    have := List.all_eq_true.1 h3 i (List.mem_range.2 hi)
    rw [hd] at this
    rw [hn]
    simpa using this
  · intro j i hj hi ho
    have ho' : own j = some i := by rw [← hkind j hj]; exact ho
    unfold ownB at h2
    have := List.all_eq_true.1 h2 j (List.mem_range.2 hj)
    rw [ho'] at this
    simp only [Bool.or_eq_true, decide_eq_true_eq] at this
    rcases this with h | h
    · omega
    · exact h
  · intro i x y v row hi hF hg hne hrow
    show KF _ _ _ y v (kind i)
    replace hF : KF w.heap.size el size x v (kind i) := hF
    replace hne : Kown (kind i) ≠ none → v.ownBlock = none ∨ v.ownBlock ≠ row := hne
    cases hk : kind i with
    | inl u => rw [hk] at hF; exact hF
    | inr k =>
    cases k with
    | inl r =>
      rw [hk] at hF hne
      exact World.ownsRow.kept hF hg (hne (by simp [Kown]))
    | inr p =>
      rw [hk] at hF
      obtain ⟨hno, hst⟩ := hfact i p hi hk
      cases row with
      | none => exact hst x y v hF ⟨hg.os, hg.tape, hg.output, hg.size, fun k hk => hg.block k hk (by simp)⟩
      | some g =>
        obtain ⟨_, j, hj, ho⟩ := hrow g rfl
        exact absurd ((hkind j hj).trans (hno j hj)) ho
  · intro i x v hi hF ho g hg
    replace hF : KF w.heap.size el size x v (kind i) := hF
    replace ho : Kown (kind i) ≠ none := ho
    cases hk : kind i with
    | inl u => rw [hk] at ho; exact absurd rfl ho
    | inr k =>
      cases k with
      | inl r => rw [hk] at hF; exact World.ownsRow.lt hF g hg
      | inr p => rw [hk] at ho; exact absurd rfl ho
  · intro i hi b x hfr hb hD hO K hK
    exact hstep i hi b x hfr hb (fun j d hj hd hw ho => hD j d hj hd hw (by
      show Kown (kind j) = none ∨ Kown (kind j) = some i
      rw [hkind j hj]; exact ho)) hO K hK
  · intro b x hfr hb hD
    have := hlast b x hfr hb fun j d hj hd ho => hD j d hj hd fun i hi => (by
      show Kown (kind j) ≠ some i
      rw [hkind j hj]; exact ho i hi)
    rw [← wpOps_eq_wpList (ops := l.toArray) (l.drop m) m (fun j => by simp [List.getElem?_drop])] at this
    simpa using this
end Go.RegionOwn
