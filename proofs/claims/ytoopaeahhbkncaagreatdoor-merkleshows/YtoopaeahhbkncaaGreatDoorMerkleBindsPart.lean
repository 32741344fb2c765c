/- For MerkleBinds: a share that is shown has the verdict nought; a text of just so many bytes. -/
import Derived.Test.YtoopaeahhbkncaaGreatDoorMerkleFilesWalk
namespace Go.RegionOwn
open Go.RowKit
/-- append(own, some ..), as one step of a list of operations; what is appended may be nothing. -/
theorem list_append_holds {P : Program} {ops : Array Oper} {rest : List Oper} {o : Oper} {a : Act} {w : World} {Q : Exit → Act → World → Prop} (hgd : o.guard = none) (s x : Operand) (t : TypeId)
    (ho : o.op = .call { callee := .builtin .append, args := #[s, x], argTypes := #[t, t] }) (ti : TypeInfo) (z : Value) (size bytes el : Nat) (ht : P.underlying t = some (.slice el)) (hi : P.info? el = some ti) (hz : ti.zero = some z)
    (hsize : ti.size = size) (hby : ti.bytes = bytes) (hzs : z.cells.size = size) (hsz : 0 < size) {base n k : Nat} {v u : Value} {xs ys : List Value} (hs : a.eval s = v) (hx : a.eval x = u) (hown : w.ownsRow base el size v n xs) (hbase : base ≤ w.heap.size)
    (hsrc : Holds w u size k ys) (hone : ∀ y ∈ ys, y.oneCell' = true) (h63 : n + k ≤ maxLen) (hbytes : (n + k) * bytes ≤ 140737488355328)
    (h : ∀ v' y, y.ownsRow base el size v' (n + k) (xs ++ ys) → w.grownBy y v.ownBlock → wpList P ops Q rest (a.put o.dst v') y) : wpList P ops Q (o :: rest) a w := by
  have key : ∃ v' y, (Builtin.append_ #[t, t] o.type #[v, u]).run P w = .ok v' y ∧ y.ownsRow base el size v' (n + k) (xs ++ ys) ∧ w.grownBy y v.ownBlock := by
    rcases hsrc.2 with ⟨h1, h2⟩ | ⟨ad, cap, h1, h2⟩
    · subst h2
      have hys : ys = [] := List.eq_nil_of_length_eq_zero (by simpa using hsrc.1)
      subst hys
      rw [h1]
      exact ⟨_, _, run_append_owned_none (P := P) (w := w) base t o.type el ti size ht hi _ n xs hown, by simpa using hown, ⟨rfl, rfl, rfl, Nat.le_refl _, fun _ _ _ => rfl⟩⟩
    · rw [h1]
      obtain ⟨v', y, hr, h3, h4, _⟩ := run_append_own (P := P) w base t o.type el ti z size bytes ht hi hz hsize hby hzs hsz _ n xs hown ad k cap ys hsrc.1 h2 hone h63 hbytes hbase
      exact ⟨v', y, hr, h3, h4⟩
  obtain ⟨v', y, hr, h1, h2⟩ := key
  refine wpList_plain hgd fun K hK => ?_
  unfold Oper.wp execOp
  simp only [ho, resolve, invoke, builtin, Sem.run_bind, Sem.run_pure, Result.andThen_ok, List.map_toArray, List.map_cons, List.map_nil, hs, hx, hr]
  exact hK _ _ (h v' y h1 h2)
end Go.RegionOwn
namespace Go.Chunk
theorem texts_some (s : ByteArray) : ∀ x ∈ texts s, 1 ≤ x.size := by
  unfold texts
  refine chunks_ind (P := fun l => ∀ x ∈ (chunks l).map txt, 1 ≤ x.size) (fun x hx => by rw [show chunks [] = [] from rfl] at hx; cases hx) (fun l h ih => ?_) s.data.toList
  intro x hx
  rw [chunks_step l h, List.map_cons] at hx
  rcases List.mem_cons.1 hx with rfl | hx
  · have h1 := cut_pos l (List.length_pos_iff.2 h)
    have h2 := List.length_pos_iff.2 h
    show 1 ≤ (l.take (cut l)).toArray.size
    rw [List.size_toArray, List.length_take]
    omega
  · exact ih x hx
end Go.Chunk
namespace Go.Mk
open Go.Chunk
/-- What is shown shows its chunk. -/
theorem shown_ok (s : ByteArray) (k : Nat) (t : ByteArray) (hs : s.size ≤ 8192) (ht : (texts s)[k]? = some t) :
    Sh.verdict ⟨named s.size (texts s).length (root ((texts s).map digest)), s.size, (texts s).length, k, t, path ((texts s).map digest) k⟩ = 0 := by
  have hk : k < (texts s).length := (List.getElem?_eq_some_iff.1 ht).1
  have hm := List.mem_of_getElem? ht
  have h1 := texts_few s
  have h2 := texts_most s
  have h3 := texts_length s
  have h4 := texts_size s t hm
  have h5 := texts_some s t hm
  have hdl : ((texts s).map digest).length = (texts s).length := List.length_map _
  have hd32 : ∀ x ∈ (texts s).map digest, x.size = 32 := fun x hx => by obtain ⟨y, _, rfl⟩ := List.mem_map.1 hx; exact digest_size y
  have hC : Sh.Claims ⟨named s.size (texts s).length (root ((texts s).map digest)), s.size, (texts s).length, k, t, path ((texts s).map digest) k⟩ :=
    ⟨by show (1 : Int) ≤ ((texts s).length : Int); omega, by show ((texts s).length : Int) ≤ 256; omega, by show (0 : Int) ≤ (k : Int); omega, by show (k : Int) < ((texts s).length : Int); omega, ⟨by show ((texts s).length : Int) ≤ 256; omega, by show (s.size : Int) ≤ 8192; omega, by show ((texts s).length : Int) ≤ (s.size : Int); omega, by show (s.size : Int) ≤ 512 * ((texts s).length : Int); omega⟩, h5, h4⟩
  have hP : Sh.Proves ⟨named s.size (texts s).length (root ((texts s).map digest)), s.size, (texts s).length, k, t, path ((texts s).map digest) k⟩ := by
    refine ⟨?_, path_sizes _ _ hd32, ?_⟩
    · show (path ((texts s).map digest) k).length = way ((k : Int).toNat) (((texts s).length : Int).toNat)
      rw [path_length, hdl, Int.toNat_natCast, Int.toNat_natCast]
    · show named ((s.size : Int).toNat) (((texts s).length : Int).toNat) (climb (digest t) ((k : Int).toNat) (((texts s).length : Int).toNat) (path ((texts s).map digest) k)) = named s.size (texts s).length (root ((texts s).map digest))
      rw [Int.toNat_natCast, Int.toNat_natCast, Int.toNat_natCast]
      have := climb_path ((texts s).map digest) k (digest t) (by rw [List.getElem?_map, ht]; rfl)
      rw [hdl] at this
      rw [this]
  unfold Sh.verdict
  rw [if_pos hC, if_pos hP]
end Go.Mk
namespace Go.Proofs.YtoopaeahhbkncaaGreatDoor
open Go.RowKit Go.Shelf Go.Wire Go.Mk Go.Chunk
attribute [local go_sem] Oper.semAt_some
theorem few9_none (seed : Int) (q : Nat) (w : World) (hq : q ≤ 8000) :
    Calls Tryz.prog 4 #[.string ⟨#[]⟩, .int .u64 seed, .int .i64 q] w fun e w' => (∃ t : ByteArray, t.size = q ∧ e = .returned (.string t)) ∧ Below w.heap.size w w' := by
  have hm : (q : Int).tmod 8194 = q := by rw [Int.tmod_eq_emod_of_nonneg (by omega)]; omega
  have hq1 : ((q : Int) + 8194).tmod 8194 = q := by rw [Int.tmod_eq_emod_of_nonneg (by omega)]; omega
  have hq2 : (q : Int) ≤ 8000 := by omega
  have HT := hide (fun (w' : World) => ctext_any seed q w' (by omega))
  go_enter Tryz.func4, Tryz.ntmps4
  go_wp2_with fail
  refine (HT.out _).mono ?_
  rintro e w1 ⟨⟨t, ht, rfl⟩, hb⟩
  have HB := hide hb
  clear hb
  have hAt : ((⟨#[]⟩ : ByteArray) ++ t).size = q := by rw [Sha.app_size, ht]; show 0 + q = q; omega
  have h8 : ¬ ((8193 : Int) < (((⟨#[]⟩ : ByteArray) ++ t).size : Nat)) := by omega
  go_wp2_with fail
  go_ret
  exact ⟨⟨_, hAt, rfl⟩, HB.out⟩
end Go.Proofs.YtoopaeahhbkncaaGreatDoor
