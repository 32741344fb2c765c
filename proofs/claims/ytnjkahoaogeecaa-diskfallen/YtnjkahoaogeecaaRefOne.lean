/- Several texts in one: DiskRef, DiskRefSum, DiskRefFind, DiskRefMath. -/
import Derived.Test.YtnjkahoaogeecaaDiskAwake
import Derived.Test.YtnjkahoaogeecaaRegionAll
/- The document's disk as a value: slices that are read by their cells; bytes behind the first so many puts. -/
namespace Go.Dk
open Go.RowKit
/-- The type that a block bears. -/
def tag (w : World) (b : Nat) : Option TypeId := match w.heap[b]? with | some (.cells _ t _) => some t | _ => none
/-- What the rows of the document's slices bear: by the cells of an element. -/
def rowTag (k : Nat) : TypeId := if k = 4 then 52 else if k = 2 then 91 else 63
theorem tag_of {w : World} {b : Nat} {cs : Array Value} {t : TypeId} {fr : Nat × Nat} (h : w.heap[b]? = some (.cells cs t fr)) : tag w b = some t := by unfold tag; rw [h]
theorem tag_eq {w w' : World} {b : Nat} (h : w'.heap[b]? = w.heap[b]?) : tag w' b = tag w b := by unfold tag; rw [h]
/-- The slice value v holds n structs of k cells each: these cells. -/
def Sees (w : World) (v : Value) (k n : Nat) (xs : List Value) : Prop :=
  xs.length = n * k ∧ ((v = .slice none 0 0 ∧ n = 0) ∨ ∃ b off cap, v = .slice (some ⟨b, off, none⟩) n cap ∧ n ≤ cap ∧ b < w.heap.size ∧ (∀ j u, xs[j]? = some u → w.cell? ⟨b, off + j, none⟩ = some u) ∧ tag w b = some (rowTag k))
/-- It stands while blocks of its kind stand. -/
theorem Sees.kept {w w' : World} {v : Value} {k n : Nat} {xs : List Value} (h : Sees w v k n xs) (hs : w.heap.size ≤ w'.heap.size) (hb : ∀ b, tag w b = some (rowTag k) → w'.heap[b]? = w.heap[b]?) : Sees w' v k n xs := by
  refine ⟨h.1, ?_⟩
  rcases h.2 with h' | ⟨b, off, cap, h1, h2, h3, h4, h5⟩
  · exact .inl h'
  · have hk := hb b h5
    exact .inr ⟨b, off, cap, h1, h2, Nat.lt_of_lt_of_le h3 hs, fun j u hj => (World.cell?_of_block (a := ⟨b, off + j, none⟩) hk).trans (h4 j u hj), (tag_eq hk).trans h5⟩
theorem Sees.below {w w' : World} {v : Value} {k n : Nat} {xs : List Value} (h : Sees w v k n xs) (hb : Below w.heap.size w w') : Sees w' v k n xs :=
  h.kept hb.size fun b ht => hb.block b (by
    unfold tag at ht
    rcases Nat.lt_or_ge b w.heap.size with h' | h'
    · exact h'
    · rw [Array.getElem?_eq_none h'] at ht; cases ht)
theorem Sees.of_own {w : World} {base e k n : Nat} {v : Value} {xs : List Value} (h : w.ownsRow base e k v n xs) (he : e = rowTag k := by rfl) : Sees w v k n xs := by
  refine ⟨h.1, ?_⟩
  rcases h.2 with h' | ⟨g, cap, cur, h1, _, h3, h4, _, h6, h7⟩
  · exact .inl h'
  · refine .inr ⟨g, 0, cap, h1, h4, block_lt h3, fun j u hj => ?_, by rw [tag_of h3, he]⟩
    have hjl : j < xs.length := (List.getElem?_eq_some_iff.1 hj).1
    rw [Nat.zero_add, cell_of_row _ _ _ _ _ _ h3, ← Array.getElem?_toList]
    rw [← h7, List.getElem?_take_of_lt (by rw [← h.1]; exact hjl)] at hj
    exact hj
theorem Sees.form {w : World} {v : Value} {k n : Nat} {xs : List Value} (h : Sees w v k n xs) : ∃ a c, v = .slice a n c := by
  rcases h.2 with ⟨h1, h2⟩ | ⟨b, off, cap, h1, _⟩
  · exact ⟨none, 0, by rw [h2]; exact h1⟩
  · exact ⟨_, _, h1⟩
theorem Sees.at {w : World} {v : Value} {k n : Nat} {xs : List Value} (h : Sees w v k n xs) (hn : 0 < n) : ∃ b off cap, v = .slice (some ⟨b, off, none⟩) n cap ∧ n ≤ cap ∧ b < w.heap.size ∧ ∀ j u, xs[j]? = some u → w.cell? ⟨b, off + j, none⟩ = some u := by
  rcases h.2 with ⟨_, h2⟩ | ⟨b, off, cap, h1, h2, h3, h4, _⟩
  · omega
  · exact ⟨b, off, cap, h1, h2, h3, h4⟩
/-- Which cells the j-th has. -/
theorem flat_get {α : Type} {k : Nat} (g : α → List Value) (hg : ∀ x, (g x).length = k) : ∀ (l : List α) (i c : Nat) (x : α), l[i]? = some x → c < k → (l.flatMap g)[i * k + c]? = (g x)[c]?
  | [], _, _, _, h, _ => by simp at h
  | y :: l, 0, c, x, h, hc => by
    simp only [List.getElem?_cons_zero, Option.some.injEq] at h
    subst h
    rw [List.flatMap_cons, Nat.zero_mul, Nat.zero_add, List.getElem?_append_left (by rw [hg]; exact hc)]
  | y :: l, i + 1, c, x, h, hc => by
    simp only [List.getElem?_cons_succ] at h
    rw [List.flatMap_cons, List.getElem?_append_right (by rw [hg, Nat.add_mul, Nat.one_mul]; omega), hg, ← flat_get g hg l i c x h hc]
    congr 1
    rw [Nat.add_mul]
    omega
def txt (l : Bs) : Value := .string ⟨l.toArray⟩
def pcells (p : Pt) : List Value := [txt p.s, .bool p.whole]
/-- A slice of puts. -/
def PutsV (w : World) (v : Value) (ps : List Pt) : Prop := Sees w v 2 ps.length (ps.flatMap pcells)
/-- A file as the document has it: with the slice of its puts. -/
structure RF where
  a : AF
  pv : Value
def RF.cs (r : RF) : List Value := [txt r.a.name, txt r.a.sure, .bool r.a.settled, r.pv]
def RF.v (r : RF) : Value := .agg r.cs.toArray
theorem PutsV.put {w : World} {v : Value} {ps : List Pt} (h : PutsV w v ps) {i : Nat} {p : Pt} (hp : ps[i]? = some p) :
    ∃ b off cap, v = .slice (some ⟨b, off, none⟩) ps.length cap ∧ ps.length ≤ cap ∧ b < w.heap.size ∧ w.cell? ⟨b, off + i * 2, none⟩ = some (txt p.s) ∧ w.cell? ⟨b, off + i * 2 + 1, none⟩ = some (.bool p.whole) := by
  have hi := (List.getElem?_eq_some_iff.1 hp).1
  obtain ⟨b, off, cap, h1, h2, h3, h4⟩ := Sees.at h (by omega)
  refine ⟨b, off, cap, h1, h2, h3, ?_, ?_⟩
  · exact h4 (i * 2) _ (by have := flat_get (k := 2) pcells (fun _ => rfl) ps i 0 p hp (by decide); simpa [pcells] using this)
  · have := h4 (i * 2 + 1) (.bool p.whole) (by have := flat_get (k := 2) pcells (fun _ => rfl) ps i 1 p hp (by decide); simpa [pcells] using this)
    rw [← Nat.add_assoc] at this
    exact this
theorem txt_append (a b : Bs) : (⟨a.toArray⟩ ++ ⟨b.toArray⟩ : ByteArray) = ⟨(a ++ b).toArray⟩ := by
  have : ∀ x y : ByteArray, x.data.toList = y.data.toList → x = y := fun x y h => by
    obtain ⟨⟨x⟩⟩ := x
    obtain ⟨⟨y⟩⟩ := y
    simp_all
  apply this
  simp
theorem after_succ {f : AF} {i : Nat} {p : Pt} (h : f.puts[i]? = some p) : f.after (i + 1) = app (f.after i) p := by
  have hl := (List.getElem?_eq_some_iff.1 h).1
  unfold AF.after
  rw [List.take_succ_eq_append_getElem hl, List.foldl_append]
  rw [List.getElem?_eq_getElem hl] at h
  rw [Option.some.inj h]
  rfl
end Go.Dk
namespace Go.Proofs.Ytnjkahoaogeecaa
open Go.RowKit Go.Dk
set_option maxRecDepth 100000 in
set_option maxHeartbeats 1000000 in
theorem after_any (r : RF) (n : Nat) (w : World) (h : PutsV w r.pv r.a.puts) (hn : n ≤ r.a.puts.length) (hbig : r.a.puts.length ≤ 1000000) (hl : ∀ i, (r.a.after i).length ≤ 1000000000) :
    Calls Try.prog 52 #[r.v, .int .i64 n] w fun e w' => e = .returned (txt (r.a.after n)) ∧ Below w.heap.size w w' := by
  have HP : Hid (∀ i, i < n → ∃ p, r.a.puts[i]? = some p ∧ r.a.after (i + 1) = app (r.a.after i) p ∧ ∃ b off cap, r.pv = .slice (some ⟨b, off, none⟩) r.a.puts.length cap ∧ r.a.puts.length ≤ cap ∧ b < w.heap.size ∧ w.cell? ⟨b, off + i * 2, none⟩ = some (txt p.s) ∧ w.cell? ⟨b, off + i * 2 + 1, none⟩ = some (.bool p.whole)) := fun i hi => by
    have hp : r.a.puts[i]? = some r.a.puts[i] := List.getElem?_eq_getElem (by omega)
    exact ⟨_, hp, after_succ hp, h.put hp⟩
  obtain ⟨a, c, hpv⟩ := Sees.form h
  have H0 : Hid (r.a.after 0 = r.a.sure) := by simp [Hid, AF.after]
  have HL := hide hl
  unfold RF.v RF.cs
  rw [hpv] at HP ⊢
  clear h hpv hl
  generalize r.a.puts.length = m at *
  generalize r.a.name = nm at *
  generalize r.a.settled = st at *
  unfold txt at *
  go_enter Try.func52, Try.ntmps52
  go_wp2
  go_loop [5, 6] (fun v vi => ∃ i : Nat, i ≤ n ∧ vi = .int .i64 i ∧ v = .string ⟨(r.a.after i).toArray⟩) (fun _ vi => n - (intOf vi).toNat)
  case atStart => exact ⟨0, Nat.zero_le _, rfl, by rw [H0.out]⟩
  case round =>
    obtain ⟨i, hi, rfl, rfl⟩ := hrel
    by_cases hlt : i < n
    · obtain ⟨p, hp, hs, b, off, cap, hv, hcap, hbl, c0, c1⟩ := HP.out i hlt
      cases hv
      have HS := hide hs
      have hb' : b ≠ w.heap.size := by omega
      have hl1 := HL.out i
      have hl2 := HL.out (i + 1)
      clear hs hp
      have HA : Hid (∀ x, p.whole = true → x = p.s → r.a.after (i + 1) = x) := fun x h1 h2 => by rw [HS.out, h2]; unfold app; rw [if_pos h1]
      have HB : Hid (p.whole = false → r.a.after (i + 1) = r.a.after i ++ p.s) := fun h1 => by rw [HS.out]; unfold app; rw [if_neg (by simp [h1])]
      have hps : p.s.length ≤ 1000000000 := by
        rw [HS.out] at hl2
        unfold app at hl2
        split at hl2
        · exact hl2
        · rw [List.length_append] at hl2; omega
      cases hw : p.whole with
      | true =>
        rw [hw] at c1
        go_wp2
        refine ⟨⟨i + 1, by omega, by go_num, ?_⟩, by simp [intOf]; omega⟩
        rw [HA.out p.s hw rfl]
        exact congrArg Value.string (txt_append [] p.s)
      | false =>
        rw [hw] at c1
        go_wp2
        refine ⟨⟨i + 1, by omega, by go_num, ?_⟩, by simp [intOf]; omega⟩
        rw [HB.out hw]
        exact congrArg Value.string (txt_append _ p.s)
    · have : i = n := by omega
      subst this
      go_wp2
      go_ret
      exact ⟨rfl, (Below.refl _ _).alloc (Nat.le_refl _) _⟩
end Go.Proofs.Ytnjkahoaogeecaa
/- Contracts: the document's disk: a file's bytes, the bytes of all files, how many puts are not sure. -/
namespace Go.Dk
open Go.RowKit
/-- The document's disk, as a value. -/
structure RD where
  a : A
  fv : Value
  lv : Value
  rs : List RF
def RD.cs (D : RD) : Array Value := #[D.fv, .int .i64 D.a.room, D.lv, .int .i64 D.a.changes, .bool D.a.down]
def RD.v (D : RD) : Value := .agg D.cs
def RF.nm (r : RF) : Bs := r.a.name
structure RefAt (K : Nat) (w : World) (D : RD) : Prop where
  files : Sees w D.fv 4 D.rs.length (D.rs.flatMap RF.cs)
  puts : ∀ r ∈ D.rs, PutsV w r.pv r.a.puts
  same : D.rs.map RF.a = D.a.files
  falls : Sees w D.lv 3 (flen D.a.fall) (fcells D.a.fall)
  rises : Rises RF.nm D.rs
  small : ∀ r ∈ D.rs, Small K r.a
  count : D.rs.length ≤ K
  chg : D.a.changes ≤ K
  lim : K ≤ 100000
theorem RefAt.below {K : Nat} {w w' : World} {D : RD} (h : RefAt K w D) (hb : Below w.heap.size w w') : RefAt K w' D :=
  ⟨h.files.below hb, fun r hr => Sees.below (h.puts r hr) hb, h.same, h.falls.below hb, h.rises, h.small, h.count, h.chg, h.lim⟩
theorem RefAt.kept {K : Nat} {w w' : World} {D : RD} (h : RefAt K w D) (hs : w.heap.size ≤ w'.heap.size) (hb : ∀ b k, tag w b = some (rowTag k) → w'.heap[b]? = w.heap[b]?) : RefAt K w' D :=
  ⟨h.files.kept hs fun b => hb b 4, fun r hr => Sees.kept (h.puts r hr) hs fun b => hb b 2, h.same, h.falls.kept hs fun b => hb b 3, h.rises, h.small, h.count, h.chg, h.lim⟩
theorem rowTag_ne (k : Nat) : rowTag k ≠ 27 := by
  unfold rowTag
  split
  · decide
  · split <;> decide
/-- A cell of a disk's own block is set. -/
theorem RefAt.set {K : Nat} {w : World} {D : RD} (h : RefAt K w D) {g j : Nat} {cs : Array Value} (hg : w.heap[g]? = some (.cells cs 27 (0, 0))) (v : Value) : RefAt K (w.setCell ⟨g, j, none⟩ v) D :=
  h.kept (by simp [World.setCell]) fun b k ht => by
    have hne : b ≠ g := fun e => by
      rw [e, tag_of hg] at ht
      exact rowTag_ne k (Option.some.inj ht).symm
    simp only [World.setCell, Array.getElem?_modify]
    rw [if_neg (fun e => hne e.symm)]
theorem Sees.file {w : World} {v : Value} {rs : List RF} (h : Sees w v 4 rs.length (rs.flatMap RF.cs)) {i : Nat} {r : RF} (hr : rs[i]? = some r) :
    ∃ b off cap, v = .slice (some ⟨b, off, none⟩) rs.length cap ∧ rs.length ≤ cap ∧ b < w.heap.size ∧ w.cell? ⟨b, off + i * 4, none⟩ = some (txt r.a.name) ∧ w.cell? ⟨b, off + i * 4 + 1, none⟩ = some (txt r.a.sure) ∧ w.cell? ⟨b, off + i * 4 + 2, none⟩ = some (.bool r.a.settled) ∧ w.cell? ⟨b, off + i * 4 + 3, none⟩ = some r.pv := by
  have hi := (List.getElem?_eq_some_iff.1 hr).1
  obtain ⟨b, off, cap, h1, h2, h3, h4⟩ := Sees.at h (by omega)
  have key : ∀ c u, c < 4 → r.cs[c]? = some u → w.cell? ⟨b, off + (i * 4 + c), none⟩ = some u := fun c u hc hu => h4 _ u (by rw [flat_get (k := 4) RF.cs (fun _ => rfl) rs i c r hr hc]; exact hu)
  refine ⟨b, off, cap, h1, h2, h3, key 0 _ (by decide) rfl, ?_, ?_, ?_⟩
  · have := key 1 _ (by decide) rfl; rwa [← Nat.add_assoc] at this
  · have := key 2 _ (by decide) rfl; rwa [← Nat.add_assoc] at this
  · have := key 3 _ (by decide) rfl; rwa [← Nat.add_assoc] at this
theorem txt_size (l : Bs) : (⟨l.toArray⟩ : ByteArray).size = l.length := by
  show l.toArray.size = _
  simp
theorem total_take {l : List AF} {i : Nat} {f : AF} (h : l[i]? = some f) : total (l.take (i + 1)) = total (l.take i) + f.bytes.length := by
  unfold total
  rw [take_snoc h]
  simp
theorem loose_take {l : List AF} {i : Nat} {f : AF} (h : l[i]? = some f) : looseOf (l.take (i + 1)) = looseOf (l.take i) + f.puts.length := by
  unfold looseOf
  rw [take_snoc h]
  simp
theorem sum_le {α : Type} (g : α → Nat) (m : Nat) : ∀ l : List α, (∀ x ∈ l, g x ≤ m) → (l.map g).sum ≤ l.length * m
  | [], _ => by simp
  | x :: l, h => by
    have h1 := h x (by simp)
    have h2 := sum_le g m l fun y hy => h y (by simp [hy])
    simp only [List.map_cons, List.sum_cons, List.length_cons, Nat.add_mul, Nat.one_mul]
    omega
theorem Small.after {K : Nat} {f : AF} (h : Small K f) (hK : K ≤ 100000) (i : Nat) : (f.after i).length ≤ 1000000000 := by have := h.lens i; omega
theorem RefAt.afile {K : Nat} {w : World} {D : RD} (h : RefAt K w D) {i : Nat} {r : RF} (hr : D.rs[i]? = some r) : D.a.files[i]? = some r.a := by
  rw [← h.same, List.getElem?_map, hr]
  rfl
theorem RefAt.total_le {K : Nat} {w : World} {D : RD} (h : RefAt K w D) (i : Nat) : total (D.a.files.take i) ≤ 1000000000000 ∧ looseOf (D.a.files.take i) ≤ 1000000000000 := by
  have hlim := h.lim
  have hc : (D.a.files.take i).length ≤ 100000 := by
    have : D.a.files.length = D.rs.length := by rw [← h.same]; simp
    have := h.count
    simp
    omega
  have hs : ∀ f ∈ D.a.files.take i, Small K f := fun f hf => by
    have := List.mem_of_mem_take hf
    rw [← h.same] at this
    obtain ⟨r, hr, rfl⟩ := List.mem_map.1 this
    exact h.small r hr
  have h1 := sum_le (fun f : AF => f.bytes.length) 10000000 (D.a.files.take i) fun f hf => by have := (hs f hf).bytes; omega
  have h2 := sum_le (fun f : AF => f.puts.length) 10000000 (D.a.files.take i) fun f hf => by have := (hs f hf).puts; omega
  have h3 : (D.a.files.take i).length * 10000000 ≤ 100000 * 10000000 := Nat.mul_le_mul_right _ hc
  unfold total looseOf
  omega
end Go.Dk
namespace Go.Proofs.Ytnjkahoaogeecaa
open Go.RowKit Go.Dk
set_option maxRecDepth 100000 in
set_option maxHeartbeats 1000000 in
theorem rbytes_any (r : RF) (w : World) (h : PutsV w r.pv r.a.puts) (hbig : r.a.puts.length ≤ 1000000) (hl : ∀ i, (r.a.after i).length ≤ 1000000000) :
    Calls Try.prog 36 #[r.v] w fun e w' => e = .returned (txt r.a.bytes) ∧ Below w.heap.size w w' := by
  have HA : Hid (∀ w1, Below w.heap.size w w1 → Calls Try.prog 52 #[r.v, .int .i64 r.a.puts.length] w1 fun e w' => e = .returned (txt r.a.bytes) ∧ Below w1.heap.size w1 w') := fun w1 hb => by
    have := after_any r r.a.puts.length w1 (Sees.below h hb) (Nat.le_refl _) hbig hl
    rw [AF.after_all] at this
    exact this
  obtain ⟨a, c, hpv⟩ := Sees.form h
  have HB : Hid (Below w.heap.size w (w.alloc (.cells r.cs.toArray 52))) := (Below.refl _ _).alloc (Nat.le_refl _) _
  unfold RF.v RF.cs txt at *
  rw [hpv] at HA HB ⊢
  clear h hpv hl
  generalize r.a.name.toArray = nm at *
  generalize r.a.sure.toArray = su at *
  generalize r.a.settled = st at *
  generalize r.a.puts.length = m at *
  generalize r.a.bytes.toArray = res at *
  go_enter Try.func36, Try.ntmps36
  go_wp2_with (go_at_call 52; refine (HA.out _ HB.out).mono ?_; rintro e w1 ⟨rfl, k1⟩)
  go_ret
  exact ⟨rfl, HB.out.trans (k1.mono HB.out.size)⟩
set_option maxRecDepth 100000 in
set_option maxHeartbeats 1000000 in
theorem rsize_any (K : Nat) (D : RD) (w : World) (h : RefAt K w D) :
    Calls Try.prog 34 #[D.v] w fun e w' => e = .returned (.int .i64 (total D.a.files)) ∧ Below w.heap.size w w' := by
  have HF : Hid (∀ i, i < D.rs.length → ∃ r, D.rs[i]? = some r ∧ total (D.a.files.take (i + 1)) = total (D.a.files.take i) + r.a.bytes.length ∧ r.a.bytes.length ≤ 10000000 ∧ (∃ b off cap, D.fv = .slice (some ⟨b, off, none⟩) D.rs.length cap ∧ D.rs.length ≤ cap ∧ b < w.heap.size ∧ w.cell? ⟨b, off + i * 4, none⟩ = some (txt r.a.name) ∧ w.cell? ⟨b, off + i * 4 + 1, none⟩ = some (txt r.a.sure) ∧ w.cell? ⟨b, off + i * 4 + 2, none⟩ = some (.bool r.a.settled) ∧ w.cell? ⟨b, off + i * 4 + 3, none⟩ = some r.pv) ∧
      (∃ a m c, r.pv = .slice a m c) ∧ ∀ w1, Below w.heap.size w w1 → Calls Try.prog 36 #[r.v] w1 fun e w' => e = .returned (txt r.a.bytes) ∧ Below w1.heap.size w1 w') := fun i hi => by
    have hr : D.rs[i]? = some D.rs[i] := List.getElem?_eq_getElem hi
    have hm := List.mem_of_getElem? hr
    have hs := h.small _ hm
    have hlim := h.lim
    refine ⟨_, hr, total_take (h.afile hr), by have := hs.bytes; omega, h.files.file hr, let ⟨a, c, e⟩ := Sees.form (h.puts _ hm); ⟨a, _, c, e⟩, fun w1 hb => rbytes_any _ w1 (Sees.below (h.puts _ hm) hb) (by have := hs.puts; omega) (hs.after hlim)⟩
  have HT : Hid (∀ i, total (D.a.files.take i) ≤ 1000000000000) := fun i => (h.total_le i).1
  have HE : Hid (total (D.a.files.take D.rs.length) = total D.a.files) := by
    rw [Hid, List.take_of_length_le (by rw [← h.same]; simp)]
  obtain ⟨a, c, hfv⟩ := Sees.form h.files
  obtain ⟨la, lc, hlv⟩ := Sees.form h.falls
  have hcnt := h.count
  have hlim := h.lim
  unfold RD.v RD.cs
  rw [hfv] at HF ⊢
  rw [hlv]
  clear h hfv hlv
  generalize D.rs.length = n at *
  generalize D.a.room = rm at *
  generalize D.a.changes = ch at *
  generalize D.a.down = dn at *
  generalize flen D.a.fall = fn at *
  go_enter Try.func34, Try.ntmps34
  go_wp2
  go_loopw [3, 4] (fun v vi wr => ∃ i : Nat, i ≤ n ∧ vi = .int .i64 i ∧ v = .int .i64 (total (D.a.files.take i) : Nat) ∧ Hid (Below (w.heap.size + 1) (w.alloc (.cells #[.slice a n c, .int .i64 rm, .slice la fn lc, .int .i64 ch, .bool dn] 27)) wr)) (fun _ vi _ => n - (intOf vi).toNat)
  case atStart => exact ⟨0, Nat.zero_le _, rfl, rfl, Below.refl _ _⟩
  case round =>
    obtain ⟨i, hi, rfl, rfl, HB⟩ := hrel
    have hrow : wr.heap[w.heap.size]? = some (.cells #[.slice a n c, .int .i64 rm, .slice la fn lc, .int .i64 ch, .bool dn] 27 (0, 0)) := (HB.out.block _ (by omega)).trans (heap_alloc_new w _)
    have hc0 : wr.cell? ⟨w.heap.size, 0, none⟩ = some (.slice a n c) := by rw [cell_of_row _ _ _ _ _ _ hrow]; rfl
    have HBw : Hid (Below w.heap.size w wr) := ((Below.refl _ _).alloc (Nat.le_refl _) _).trans (HB.out.mono (by omega))
    clear hrow
    by_cases hlt : i < n
    · obtain ⟨r, hr, hs, hbl, ⟨b, off, cap, hv, hcap, hbw, d0, d1, d2, d3⟩, ⟨pa, pm, pc, hpv⟩, hcall⟩ := HF.out i hlt
      cases hv
      have e : ∀ k u, w.cell? ⟨b, k, none⟩ = some u → wr.cell? ⟨b, k, none⟩ = some u := fun k u hu => (HBw.out.cell (p := ⟨b, k, none⟩) hbw).trans hu
      have q0 := e _ _ d0
      have q1 := e _ _ d1
      have q2 := e _ _ d2
      have q3 := e _ _ d3
      have HC := hide (hcall wr HBw.out)
      have HS := hide hs
      have ht := HT.out i
      rw [hpv] at q3
      unfold RF.v RF.cs at HC
      rw [hpv] at HC
      clear hcall hs d0 d1 d2 d3 e hr hpv
      have hz := txt_size r.a.bytes
      unfold txt at *
      generalize r.a.bytes.length = L at *
      generalize (⟨r.a.bytes.toArray⟩ : ByteArray) = res at *
      generalize r.a.name.toArray = nm at *
      generalize r.a.sure.toArray = su at *
      generalize r.a.settled = st at *
      generalize htt : total (D.a.files.take i) = tt at *
      clear htt
      have HZ := hide hz
      clear hz
      have hres : res.size ≤ 10000000 := by rw [HZ.out]; exact hbl
      go_wp2_with (go_at_call 36; refine HC.out.mono ?_; rintro e w1 ⟨rfl, k1⟩)
      refine ⟨⟨i + 1, by omega, by go_num, by rw [HS.out, HZ.out]; go_num, HB.out.trans (k1.mono (by have := HB.out.size; simp at this; omega))⟩, by simp [intOf]; omega⟩
    · have : i = n := by omega
      subst this
      go_wp2
      go_ret
      exact ⟨by rw [← HE.out]; rfl, HBw.out⟩
set_option maxRecDepth 100000 in
set_option maxHeartbeats 1000000 in
theorem rloose_any (K : Nat) (D : RD) (w : World) (h : RefAt K w D) :
    Calls Try.prog 35 #[D.v] w fun e w' => e = .returned (.int .i64 (looseOf D.a.files)) ∧ Below w.heap.size w w' := by
  have HF : Hid (∀ i, i < D.rs.length → ∃ r, D.rs[i]? = some r ∧ looseOf (D.a.files.take (i + 1)) = looseOf (D.a.files.take i) + r.a.puts.length ∧ r.a.puts.length ≤ 10000000 ∧ (∃ b off cap, D.fv = .slice (some ⟨b, off, none⟩) D.rs.length cap ∧ D.rs.length ≤ cap ∧ b < w.heap.size ∧ w.cell? ⟨b, off + i * 4, none⟩ = some (txt r.a.name) ∧ w.cell? ⟨b, off + i * 4 + 1, none⟩ = some (txt r.a.sure) ∧ w.cell? ⟨b, off + i * 4 + 2, none⟩ = some (.bool r.a.settled) ∧ w.cell? ⟨b, off + i * 4 + 3, none⟩ = some r.pv) ∧
      ∃ a c, r.pv = .slice a r.a.puts.length c) := fun i hi => by
    have hr : D.rs[i]? = some D.rs[i] := List.getElem?_eq_getElem hi
    have hm := List.mem_of_getElem? hr
    have hs := h.small _ hm
    have hlim := h.lim
    exact ⟨_, hr, loose_take (h.afile hr), by have := hs.puts; omega, h.files.file hr, Sees.form (h.puts _ hm)⟩
  have HT : Hid (∀ i, looseOf (D.a.files.take i) ≤ 1000000000000) := fun i => (h.total_le i).2
  have HE : Hid (looseOf (D.a.files.take D.rs.length) = looseOf D.a.files) := by
    rw [Hid, List.take_of_length_le (by rw [← h.same]; simp)]
  obtain ⟨a, c, hfv⟩ := Sees.form h.files
  obtain ⟨la, lc, hlv⟩ := Sees.form h.falls
  have hcnt := h.count
  have hlim := h.lim
  unfold RD.v RD.cs
  rw [hfv] at HF ⊢
  rw [hlv]
  clear h hfv hlv
  generalize D.rs.length = n at *
  generalize D.a.room = rm at *
  generalize D.a.changes = ch at *
  generalize D.a.down = dn at *
  generalize flen D.a.fall = fn at *
  go_enter Try.func35, Try.ntmps35
  go_wp2
  go_loopw [3, 4] (fun v vi wr => ∃ i : Nat, i ≤ n ∧ vi = .int .i64 i ∧ v = .int .i64 (looseOf (D.a.files.take i) : Nat) ∧ Hid (Below (w.heap.size + 1) (w.alloc (.cells #[.slice a n c, .int .i64 rm, .slice la fn lc, .int .i64 ch, .bool dn] 27)) wr)) (fun _ vi _ => n - (intOf vi).toNat)
  case atStart => exact ⟨0, Nat.zero_le _, rfl, rfl, Below.refl _ _⟩
  case round =>
    obtain ⟨i, hi, rfl, rfl, HB⟩ := hrel
    have hrow : wr.heap[w.heap.size]? = some (.cells #[.slice a n c, .int .i64 rm, .slice la fn lc, .int .i64 ch, .bool dn] 27 (0, 0)) := (HB.out.block _ (by omega)).trans (heap_alloc_new w _)
    have hc0 : wr.cell? ⟨w.heap.size, 0, none⟩ = some (.slice a n c) := by rw [cell_of_row _ _ _ _ _ _ hrow]; rfl
    have HBw : Hid (Below w.heap.size w wr) := ((Below.refl _ _).alloc (Nat.le_refl _) _).trans (HB.out.mono (by omega))
    clear hrow
    by_cases hlt : i < n
    · obtain ⟨r, hr, hs, hbl, ⟨b, off, cap, hv, hcap, hbw, d0, d1, d2, d3⟩, pa, pc, hpv⟩ := HF.out i hlt
      cases hv
      have e : ∀ k u, w.cell? ⟨b, k, none⟩ = some u → wr.cell? ⟨b, k, none⟩ = some u := fun k u hu => (HBw.out.cell (p := ⟨b, k, none⟩) hbw).trans hu
      have q3 := e _ _ d3
      have HS := hide hs
      have ht := HT.out i
      rw [hpv] at q3
      clear hs d0 d1 d2 d3 e hr hpv
      generalize r.a.puts.length = L at *
      generalize htt : looseOf (D.a.files.take i) = tt at *
      clear htt
      go_wp2
      refine ⟨⟨i + 1, by omega, by go_num, by rw [HS.out]; go_num, HB.out⟩, by simp [intOf]; omega⟩
    · have : i = n := by omega
      subst this
      go_wp2
      go_ret
      exact ⟨by rw [← HE.out]; rfl, HBw.out⟩
end Go.Proofs.Ytnjkahoaogeecaa
/- Contract: the place of a file in the document's list. -/
namespace Go.Dk
open Go.RowKit
/-- Where a file stands, or would stand. -/
def place {α : Type} (nm : α → Bs) (k : Bs) (l : List α) : Nat := (l.takeWhile fun g => bytesBefore (nm g) k).length
theorem less_before : ∀ a b : Bs, Op.bytesLess a b = bytesBefore a b
  | [], [] => rfl
  | [], _ :: _ => rfl
  | _ :: _, [] => rfl
  | x :: a, y :: b => by
    unfold Op.bytesLess bytesBefore
    rw [less_before a b]
theorem place_at {α : Type} {nm : α → Bs} {k : Bs} : ∀ {l : List α} {i : Nat}, (∀ j r, j < i → l[j]? = some r → bytesBefore (nm r) k = true) → i ≤ l.length → (∀ r, l[i]? = some r → bytesBefore (nm r) k = false) → place nm k l = i
  | [], i, _, hi, _ => by simp at hi; subst hi; rfl
  | g :: l, 0, _, _, h0 => by
    have := h0 g rfl
    unfold place
    simp [this]
  | g :: l, i + 1, hj, hi, h0 => by
    have h1 := hj 0 g (by omega) rfl
    have h2 := place_at (nm := nm) (k := k) (l := l) (i := i) (fun j r hj' hr => hj (j + 1) r (by omega) hr) (by simpa using hi) (fun r hr => h0 r hr)
    unfold place at h2 ⊢
    simp [h1, h2]
theorem seek_before {α : Type} {nm : α → Bs} {k : Bs} : ∀ {l : List α} {i : Nat}, Rises nm l → (∀ j r, j < i → l[j]? = some r → bytesBefore (nm r) k = true) → i ≤ l.length →
    (seek nm k l).isSome = match l[i]? with | some r => if bytesBefore (nm r) k = true then (seek nm k (l.drop i)).isSome else decide (nm r = k) | none => false
  | [], i, _, _, hi => by simp at hi; subst hi; rfl
  | g :: l, 0, h, _, _ => by
    simp only [List.getElem?_cons_zero, List.drop_zero]
    split
    · rfl
    · rename_i hb
      by_cases e : nm g = k
      · simp [seek, e]
      · have hkg := before_of_not (by simpa using hb) e
        simp only [e, decide_false]
        unfold seek
        rw [List.find?_cons]
        simp only [e, decide_false]
        rw [List.find?_eq_none.2 (fun x hx => ?_)]
        · rfl
        · have := WideShapes.bytes_trans _ _ _ hkg (h.head x hx)
          simpa using fun e' : nm x = k => by rw [e', WideAt.bytes_irrefl] at this; cases this
  | g :: l, i + 1, h, hj, hi => by
    have h1 := before_ne (hj 0 g (by omega) rfl)
    have h2 := seek_before (nm := nm) (k := k) (l := l) (i := i) h.tail (fun j r hj' hr => hj (j + 1) r (by omega) hr) (by simpa using hi)
    simp only [List.getElem?_cons_succ, List.drop_succ_cons]
    rw [← h2]
    unfold seek
    rw [List.find?_cons]
    simp [h1]
end Go.Dk
namespace Go.Proofs.Ytnjkahoaogeecaa
open Go.RowKit Go.Dk
set_option maxRecDepth 100000 in
set_option maxHeartbeats 1000000 in
theorem rfind_any (K : Nat) (D : RD) (name : ByteArray) (w : World) (h : RefAt K w D) :
    Calls Try.prog 67 #[D.v, .string name] w fun e w' => e = .returned (.tuple #[.int .i64 (place RF.nm name.data.toList D.rs : Nat), .bool (seek RF.nm name.data.toList D.rs).isSome]) ∧ Below w.heap.size w w' := by
  have HF : Hid (∀ i, i < D.rs.length → ∃ r, D.rs[i]? = some r ∧ ∃ b off cap, D.fv = .slice (some ⟨b, off, none⟩) D.rs.length cap ∧ D.rs.length ≤ cap ∧ b < w.heap.size ∧ w.cell? ⟨b, off + i * 4, none⟩ = some (txt r.a.name)) := fun i hi => by
    have hr : D.rs[i]? = some D.rs[i] := List.getElem?_eq_getElem hi
    obtain ⟨b, off, cap, h1, h2, h3, h4, _⟩ := h.files.file hr
    exact ⟨_, hr, b, off, cap, h1, h2, h3, h4⟩
  obtain ⟨a, c, hfv⟩ := Sees.form h.files
  obtain ⟨la, lc, hlv⟩ := Sees.form h.falls
  have HRI := hide h.rises
  have hcnt := h.count
  have hlim := h.lim
  unfold RD.v RD.cs
  rw [hfv] at HF ⊢
  rw [hlv]
  clear h hfv hlv
  generalize hn : D.rs.length = n at *
  have HN := hide hn
  clear hn
  generalize D.a.room = rm at *
  generalize D.a.changes = ch at *
  generalize D.a.down = dn at *
  generalize flen D.a.fall = fn at *
  go_enter Try.func67, Try.ntmps67
  go_wp2
  go_loop [6] (fun vi => ∃ i : Nat, i ≤ n ∧ vi = .int .i64 i ∧ Hid (∀ j r, j < i → D.rs[j]? = some r → bytesBefore r.nm name.data.toList = true)) (fun vi => n - (intOf vi).toNat)
  case atStart => exact ⟨0, Nat.zero_le _, rfl, fun j r hj => absurd hj (Nat.not_lt_zero _)⟩
  case round =>
    obtain ⟨i, hi, rfl, HJ⟩ := hrel
    by_cases hlt : i < n
    · obtain ⟨r, hr, b, off, cap, hv, hcap, hbw, d0⟩ := HF.out i hlt
      cases hv
      have hbne : b ≠ w.heap.size := by omega
      unfold txt at d0
      have HB : Hid (Op.bytesLess r.a.name name.toList = bytesBefore r.a.name name.data.toList ∧ name.toList = name.data.toList) := ⟨by rw [ByteArray.toList_eq]; exact less_before _ _, ByteArray.toList_eq name⟩
      cases hbl : Op.bytesLess r.a.name name.toList with
      | true =>
        go_wp2
        refine ⟨⟨i + 1, by omega, by go_num, fun j r' hj hr' => ?_⟩, by simp [intOf]; omega⟩
        by_cases e : j < i
        · exact HJ.out j r' e hr'
        · have : j = i := by omega
          subst this
          rw [hr] at hr'
          cases hr'
          exact HB.out.1.symm.trans hbl
      | false =>
        have hP : place RF.nm name.data.toList D.rs = i := place_at HJ.out (by rw [HN.out]; exact hi) fun r' hr' => by
          rw [hr] at hr'
          cases hr'
          exact HB.out.1.symm.trans hbl
        have hS : (seek RF.nm name.data.toList D.rs).isSome = decide (r.a.name = name.data.toList) := by
          rw [seek_before HRI.out HJ.out (by rw [HN.out]; exact hi), hr]
          simp only
          rw [if_neg (by show ¬ bytesBefore r.a.name name.data.toList = true; rw [← HB.out.1, hbl]; simp)]
          rfl
        have HPS := hide (And.intro hP hS)
        clear hP hS
        go_wp2
        go_quiet (fail)
        go_wp2
        go_ret2
        refine ⟨?_, ?_⟩
        · rw [HPS.out.1, HPS.out.2]
          show Ending.returned (.tuple #[.int .i64 i, .bool (r.a.name == name.toList)]) = _
          rw [HB.out.2, show (r.a.name == name.data.toList) = decide (r.a.name = name.data.toList) from (by by_cases e : r.a.name = name.data.toList <;> simp [e])]
        · exact ((Below.refl _ _).alloc (Nat.le_refl _) _).trans ⟨rfl, rfl, rfl, Nat.le_refl _, fun _ _ => rfl⟩
    · have hin : i = n := by omega
      subst hin
      have hnone : D.rs[i]? = none := List.getElem?_eq_none (by rw [HN.out]; exact Nat.le_refl _)
      have HPS : Hid (place RF.nm name.data.toList D.rs = i ∧ (seek RF.nm name.data.toList D.rs).isSome = false) := by
        refine ⟨place_at HJ.out (by rw [HN.out]; exact hi) fun r' hr' => (by rw [hnone] at hr'; cases hr'), ?_⟩
        rw [seek_before HRI.out HJ.out (by rw [HN.out]; exact hi), hnone]
      clear hnone
      go_wp2
      go_quiet (fail)
      go_wp2
      go_ret2
      refine ⟨?_, ?_⟩
      · rw [HPS.out.1, HPS.out.2]
        rfl
      · exact ((Below.refl _ _).alloc (Nat.le_refl _) _).trans ⟨rfl, rfl, rfl, Nat.le_refl _, fun _ _ => rfl⟩
end Go.Proofs.Ytnjkahoaogeecaa
/- Lists that rise, by the place where a name stands; slices read by their cells, cut in two. -/
namespace Go.Dk
open Go.RowKit
theorem place_nil {α : Type} {nm : α → Bs} {k : Bs} : place nm k ([] : List α) = 0 := rfl
theorem place_cons_before {α : Type} {nm : α → Bs} {k : Bs} {g : α} {l : List α} (h : bytesBefore (nm g) k = true) : place nm k (g :: l) = place nm k l + 1 := by
  unfold place
  rw [List.takeWhile_cons, if_pos h]
  rfl
theorem place_cons_not {α : Type} {nm : α → Bs} {k : Bs} {g : α} {l : List α} (h : bytesBefore (nm g) k = false) : place nm k (g :: l) = 0 := by
  unfold place
  rw [List.takeWhile_cons, if_neg (by simp [h])]
  rfl
theorem place_le {α : Type} {nm : α → Bs} {k : Bs} : ∀ l : List α, place nm k l ≤ l.length
  | [] => Nat.le_refl _
  | g :: l => by
    cases h : bytesBefore (nm g) k
    · rw [place_cons_not h]; exact Nat.zero_le _
    · rw [place_cons_before h]; exact Nat.succ_le_succ (place_le l)
theorem seek_cons_ne {α : Type} {nm : α → Bs} {k : Bs} {g : α} {l : List α} (h : nm g ≠ k) : seek nm k (g :: l) = seek nm k l := by
  unfold seek
  rw [List.find?_cons]
  simp [h]
theorem seek_cons_eq {α : Type} {nm : α → Bs} {g : α} {l : List α} : seek nm (nm g) (g :: l) = some g := by
  unfold seek
  rw [List.find?_cons]
  simp
theorem seek_past {α : Type} {nm : α → Bs} {k : Bs} {g : α} {l : List α} (hr : Rises nm (g :: l)) (h : bytesBefore (nm g) k = false) (hne : nm g ≠ k) : seek nm k (g :: l) = none := by
  have hkg := before_of_not h hne
  unfold seek
  refine List.find?_eq_none.2 fun x hx => ?_
  have : bytesBefore k (nm x) = true := by
    rcases List.mem_cons.1 hx with rfl | hx
    · exact hkg
    · exact WideShapes.bytes_trans _ _ _ hkg (hr.head x hx)
  simpa using fun e : nm x = k => by rw [e, WideAt.bytes_irrefl] at this; cases this
/-- Where it stands. -/
theorem place_seek {α : Type} {nm : α → Bs} {k : Bs} {r : α} : ∀ {l : List α}, Rises nm l → seek nm k l = some r → l[place nm k l]? = some r ∧ place nm k l < l.length
  | [], _, h => by cases h
  | g :: l, hr, h => by
    cases hb : bytesBefore (nm g) k with
    | true =>
      rw [seek_cons_ne (before_ne hb)] at h
      obtain ⟨h1, h2⟩ := place_seek hr.tail h
      rw [place_cons_before hb]
      exact ⟨h1, Nat.succ_lt_succ h2⟩
    | false =>
      by_cases e : nm g = k
      · subst e
        rw [seek_cons_eq] at h
        rw [place_cons_not hb]
        exact ⟨h, Nat.succ_pos _⟩
      · rw [seek_past hr hb e] at h
        cases h
theorem ins_place {α : Type} {nm : α → Bs} (f : α) : ∀ {l : List α}, Rises nm l → ins nm f l = l.take (place nm (nm f) l) ++ f :: l.drop (place nm (nm f) l + if (seek nm (nm f) l).isSome = true then 1 else 0)
  | [], _ => by simp [ins]
  | g :: l, hr => by
    cases hb : bytesBefore (nm g) (nm f) with
    | true =>
      unfold ins
      rw [if_pos hb, place_cons_before hb, seek_cons_ne (before_ne hb), ins_place f hr.tail, List.take_succ_cons, Nat.add_right_comm, List.drop_succ_cons]
      rfl
    | false =>
      unfold ins
      rw [if_neg (by simp [hb]), place_cons_not hb]
      by_cases e : nm g = nm f
      · rw [if_pos e, ← e, seek_cons_eq]
        simp
      · rw [if_neg e, seek_past hr hb e]
        simp
theorem del_none {α : Type} {nm : α → Bs} {k : Bs} {l : List α} (h : seek nm k l = none) : del nm k l = l := by
  unfold del
  exact List.filter_eq_self.2 fun x hx => by simpa using seek_none h x hx
theorem del_place {α : Type} {nm : α → Bs} {k : Bs} {r : α} : ∀ {l : List α}, Rises nm l → seek nm k l = some r → del nm k l = l.take (place nm k l) ++ l.drop (place nm k l + 1)
  | [], _, h => by cases h
  | g :: l, hr, h => by
    cases hb : bytesBefore (nm g) k with
    | true =>
      have hne := before_ne hb
      rw [seek_cons_ne hne] at h
      have := del_place hr.tail h
      unfold del at this ⊢
      rw [List.filter_cons, if_pos (by simpa using hne), this, place_cons_before hb]
      rfl
    | false =>
      by_cases e : nm g = k
      · subst e
        rw [place_cons_not hb]
        unfold del
        rw [List.filter_cons, if_neg (by simp)]
        simp only [List.take_zero, List.nil_append, Nat.zero_add, List.drop_succ_cons, List.drop_zero]
        exact List.filter_eq_self.2 fun x hx => by simpa using Ne.symm (before_ne (hr.head x hx))
      · rw [seek_past hr hb e] at h
        cases h
/-! ### slices cut -/
theorem flat_len {α : Type} {k : Nat} {g : α → List Value} (hg : ∀ x, (g x).length = k) : ∀ l : List α, (l.flatMap g).length = l.length * k
  | [] => by simp
  | x :: l => by rw [List.flatMap_cons, List.length_append, hg, flat_len hg l, List.length_cons, Nat.add_mul, Nat.one_mul, Nat.add_comm]
theorem flat_take {α : Type} {k : Nat} {g : α → List Value} (hg : ∀ x, (g x).length = k) (l : List α) (n : Nat) (hn : n ≤ l.length) : (l.flatMap g).take (n * k) = (l.take n).flatMap g := by
  have h := congrArg (List.flatMap g) (List.take_append_drop n l).symm
  rw [List.flatMap_append] at h
  rw [h, List.take_left' (by rw [flat_len hg, List.length_take, Nat.min_eq_left hn])]
theorem flat_drop {α : Type} {k : Nat} {g : α → List Value} (hg : ∀ x, (g x).length = k) (l : List α) (n : Nat) (hn : n ≤ l.length) : (l.flatMap g).drop (n * k) = (l.drop n).flatMap g := by
  have h := congrArg (List.flatMap g) (List.take_append_drop n l).symm
  rw [List.flatMap_append] at h
  rw [h, List.drop_left' (by rw [flat_len hg, List.length_take, Nat.min_eq_left hn])]
theorem add_lit (b o j : Nat) : (⟨b, o, none⟩ : Addr).add j = ⟨b, o + j, none⟩ := by
  unfold Addr.add
  split <;> simp_all
/-- The first n of them. -/
theorem head_holds {α : Type} {k : Nat} {g : α → List Value} (hg : ∀ x, (g x).length = k) {w : World} {l : List α} {b off : Nat} (h : ∀ j u, (l.flatMap g)[j]? = some u → w.cell? ⟨b, off + j, none⟩ = some u) {n : Nat} (hn : n ≤ l.length) (cap : Nat) :
    RegionOwn.Holds w (.slice (some ⟨b, off, none⟩) n cap) k n ((l.take n).flatMap g) := by
  refine ⟨by rw [flat_len hg, List.length_take, Nat.min_eq_left hn], .inr ⟨_, cap, rfl, fun j u hu => ?_⟩⟩
  rw [add_lit]
  refine h j u ?_
  rw [← flat_take hg l n hn, List.getElem?_take] at hu
  split at hu
  · exact hu
  · cases hu
/-- Those from the n-th on. -/
theorem tail_holds {α : Type} {k : Nat} {g : α → List Value} (hg : ∀ x, (g x).length = k) {w : World} {l : List α} {b off : Nat} (h : ∀ j u, (l.flatMap g)[j]? = some u → w.cell? ⟨b, off + j, none⟩ = some u) {n : Nat} (hn : n ≤ l.length) (cap : Nat) :
    RegionOwn.Holds w (.slice (some ⟨b, off + n * k, none⟩) (l.length - n) cap) k (l.length - n) ((l.drop n).flatMap g) := by
  refine ⟨by rw [flat_len hg, List.length_drop], .inr ⟨_, cap, rfl, fun j u hu => ?_⟩⟩
  rw [add_lit, Nat.add_assoc]
  refine h _ u ?_
  rw [← flat_drop hg l n hn, List.getElem?_drop] at hu
  exact hu
theorem tail_holds' {α : Type} {k : Nat} {g : α → List Value} (hg : ∀ x, (g x).length = k) {w : World} {l : List α} {b off : Nat} (h : ∀ j u, (l.flatMap g)[j]? = some u → w.cell? ⟨b, off + j, none⟩ = some u) {n cap : Nat} (hn : n ≤ l.length) (hc : l.length ≤ cap) :
    RegionOwn.Holds w (.slice (if cap = n then some ⟨b, off, none⟩ else some ⟨b, off + n * k, none⟩) (l.length - n) (cap - n)) k (l.length - n) ((l.drop n).flatMap g) := by
  by_cases e : cap = n
  · rw [if_pos e]
    have h0 : l.length - n = 0 := by omega
    rw [h0, List.drop_eq_nil_of_le (by omega)]
    exact ⟨by simp, .inr ⟨_, _, rfl, fun j u hj => by simp at hj⟩⟩
  · rw [if_neg e]
    exact tail_holds hg h hn (cap - n)
theorem if_block {b off off' cap n a c : Nat} {ad : Addr} {k m : Nat} (h : Value.slice (if cap = n then some ⟨b, off, none⟩ else some ⟨b, off', none⟩) a c = .slice (some ad) k m) : ad.block = b := by
  split at h <;> (cases h; rfl)
theorem Holds_below {w w' : World} {v : Value} {k n : Nat} {xs : List Value} (h : RegionOwn.Holds w v k n xs) (hlt : ∀ ad a c, v = .slice (some ad) a c → ad.block < w.heap.size) (hb : Below w.heap.size w w') : RegionOwn.Holds w' v k n xs := by
  refine ⟨h.1, ?_⟩
  rcases h.2 with h' | ⟨ad, cap, h1, h2⟩
  · exact .inl h'
  · refine .inr ⟨ad, cap, h1, fun j u hj => ?_⟩
    have hbl : (ad.add j).block = ad.block := by unfold Addr.add; split <;> rfl
    exact (hb.cell (p := ad.add j) (by rw [hbl]; exact hlt _ _ _ h1)).trans (h2 j u hj)
theorem holds_nil (w : World) (k : Nat) : RegionOwn.Holds w (.slice none 0 0) k 0 [] := ⟨by simp, .inl ⟨rfl, rfl⟩⟩
theorem RefAt.mono {K K' : Nat} {w : World} {D : RD} (h : RefAt K w D) (hK : K ≤ K') (hl : K' ≤ 100000) : RefAt K' w D :=
  ⟨h.files, h.puts, h.same, h.falls, h.rises, fun r hr => (h.small r hr).mono hK, Nat.le_trans h.count hK, Nat.le_trans h.chg hK, hl⟩
theorem cs_len (r : RF) : r.cs.length = 4 := rfl
theorem cs_one {r : RF} (h : ∃ a n c, r.pv = .slice a n c) : ∀ u ∈ r.cs, u.oneCell' = true := by
  obtain ⟨a, n, c, h⟩ := h
  unfold RF.cs
  rw [h]
  simp [Value.oneCell', txt]
end Go.Dk
