/- The walk: what is taken back is all that stands behind. -/
import Derived.Test.YtknnamanbeckeaaMoveFew
import Derived.Test.YtknnamanbeckeaaMoveRAdd
import Derived.Test.YtknnamanbeckeaaMoveAwake
import Derived.Deep.MidRow
namespace Go.Mov
open Go.RowKit Go.Rws
theorem behind_zero {l : List En} (h : Ord l) (e : En) : (l.take (place l e)).countP (fun x => bfB e x) = 0 := by
  rw [List.countP_eq_zero]
  intro x hx hb
  have h1 := (place_spec (e := e) h).1 x hx
  unfold bfB at hb
  rw [decide_eq_true_iff, cmpE_lt] at hb
  exact h1.asymm hb
theorem behind_count {l : List En} (h : Ord l) {e : En} (hk : known l e = false) : l.countP (fun x => bfB e x) = backs l e := by
  have h2 : (l.drop (place l e)).countP (fun x => bfB e x) = (l.drop (place l e)).length := by
    rw [List.countP_eq_length]
    intro x hx
    have ho := ord_ins h hk
    unfold ins at ho
    have h3 := (List.pairwise_append.1 ho).2.1
    have h4 := (List.pairwise_cons.1 h3).1 x hx
    unfold bfB
    rw [decide_eq_true_iff, cmpE_lt]
    exact h4
  have h5 : l.countP (fun x => bfB e x) = (l.take (place l e)).countP (fun x => bfB e x) + (l.drop (place l e)).countP (fun x => bfB e x) := by
    rw [← List.countP_append, List.take_append_drop]
  rw [h5, behind_zero h, h2, List.length_drop]
  unfold backs
  rw [hk]
  simp
theorem count_take {l : List En} (e : En) {j : Nat} {x : En} (hx : l[j]? = some x) : (l.take (j + 1)).countP (fun x => bfB e x) = (l.take j).countP (fun x => bfB e x) + (if bfB e x then 1 else 0) := by
  rw [List.take_add_one, hx, List.countP_append]
  show _ + [x].countP _ = _
  rw [List.countP_singleton]
/-- The operations of the law's, up to one. -/
def sofar (ks : List Le) (i : Nat) : List En × Int := addsU ((ks.take i).map Le.en)
theorem sofar_next {ks : List Le} {i : Nat} {x : Le} (h : ks[i]? = some x) : sofar ks (i + 1) = (addE (sofar ks i).1 x.en, (sofar ks i).2 + backs (sofar ks i).1 x.en) := by
  unfold sofar
  rw [List.take_add_one, h, List.map_append]
  exact addsU_snoc _ _
theorem sofar_bound {ks : List Le} (h : ks.length ≤ 60) (i : Nat) : (sofar ks i).1.length ≤ 60 ∧ 0 ≤ (sofar ks i).2 ∧ (sofar ks i).2 ≤ 3600 := by
  have := addsU_bound ((ks.take i).map Le.en)
  have hl : ((ks.take i).map Le.en).length ≤ 60 := by rw [List.length_map, List.length_take]; omega
  generalize ((ks.take i).map Le.en).length = n at *
  refine ⟨by unfold sofar; omega, this.2.1, Int.le_trans this.2.2 ?_⟩
  have h1 : (n : Int) * n ≤ 60 * 60 := by
    have h2 : n * n ≤ 60 * 60 := Nat.mul_le_mul hl hl
    have h3 : ((n * n : Nat) : Int) ≤ ((60 * 60 : Nat) : Int) := by exact_mod_cast h2
    simpa using h3
  omega
theorem Le.en_fits {x : Le} (h : x.Fits) : x.en.Fits := ⟨h, by show (1 : Nat) ≤ _; decide⟩
end Go.Mov
namespace Go.Proofs.Ytknnamanbeckeaa
open Go.RowKit Go.Opn Go.Stamp Go.MapInt Go.Mov Go.Shelf Go.Rws
attribute [local go_sem] Oper.semAt_some
theorem infoLeB : (Try.prog.info? 42).map (·.size) = some 10 := by kernel_rfl
/-- A tree, the law's operations, and the document's list of them. -/
structure Mb (W : World) (b : Nat) (kv mv : Value) (ks : List Le) (l : List En) (u : Int) (v : World) : Prop where
  ks : RowsAt Le.cs 10 v kv ks
  m : RowsAt En.cs 10 v mv l
  mn : Nice mv
  t : Tw W b (fun x => kv.ownBlock = some x ∨ mv.ownBlock = some x) l u v
variable {W v v' : World} {b : Nat} {kv mv : Value} {ks : List Le} {l : List En} {u : Int}
theorem Mb.step (h : Mb W b kv mv ks l u v) (k : Below v.heap.size v v') : Mb W b kv mv ks l u v' := ⟨h.ks.below k, h.m.below k, h.mn, h.t.below k⟩
/-- The document's list is another one, the tree's is as it was. -/
structure Mc (W : World) (b : Nat) (kv mv ov : Value) (ks : List Le) (l l' : List En) (u : Int) (v : World) : Prop where
  ks : RowsAt Le.cs 10 v kv ks
  m : RowsAt En.cs 10 v mv l
  mn : Nice mv
  o : RowsAt En.cs 10 v ov l'
  on : Nice ov
  t : Tw W b (fun x => kv.ownBlock = some x ∨ ov.ownBlock = some x) l u v
theorem Mc.step {ov : Value} {l' : List En} (h : Mc W b kv mv ov ks l l' u v) (k : Below v.heap.size v v') : Mc W b kv mv ov ks l l' u v' := ⟨h.ks.below k, h.m.below k, h.mn, h.o.below k, h.on, h.t.below k⟩
theorem Mb.put (h : Mb W b kv mv ks l u v) {ov : Value} {l' : List En} (r : Ra v mv ov l' v') : Mc W b kv mv ov ks l l' u v' :=
  ⟨h.ks.below r.k, h.m.below r.k, h.mn, r.row, r.nice, h.t.turn r.k fun x hx => by
    rcases hx with hx | hx
    · exact .inl (.inl hx)
    · rcases r.spot x hx with e | e
      · exact .inl (.inr e)
      · exact .inr e⟩
theorem Mc.add {ov : Value} {e : En} (h : Mc W b kv mv ov ks l (addE l e) u v) (he : e.Fits) (hl : l.length ≤ 90000) (hu : 0 ≤ u ∧ u ≤ 1000000000000) :
    Calls Try.prog 10 #[.pointer (some ⟨b, 0, none⟩), e.v] v fun r w' => r = .returned (.bool (!known l e)) ∧ Mb W b kv ov ks (addE l e) (u + backs l e) w' := by
  refine (addTw_any e h.t he hl hu).mono ?_
  rintro r w' ⟨rfl, h1, h2, hsz⟩
  exact ⟨rfl, h.ks.kept hsz fun g hg => h2 g (.inl hg), h.o.kept hsz fun g hg => h2 g (.inr hg), h.on, h1⟩
end Go.Proofs.Ytknnamanbeckeaa
