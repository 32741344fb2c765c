/- Several texts in one: ChunkText. -/
import Derived.Test.YtigkemkebceacaaDoorChunkAll
import Derived.Test.YtigkemkebceacaaDoorPureSha
/- Contracts: a text of so many bytes; the few; awake; chunks put together. -/
namespace Go.Proofs.YtigkemkebceacaaDoor
open Go.RowKit Go.Shelf Go.Chunk
theorem ctInfo5 : (Tryd.prog.info? 5).map (fun i => (i.zero, i.size, i.bytes)) = some (some (.int .u8 0), 1, 1) := by kernel_rfl
theorem ctUnder46 : Tryd.prog.underlying 65 = some (.slice 5) := by kernel_rfl
theorem ctUnder5 : Tryd.prog.underlying 5 = some (.int .u8) := by kernel_rfl
theorem ctUnder9 : Tryd.prog.underlying 9 = some .string := by kernel_rfl
theorem news_byte (w : World) (c : UInt8) (u : Value) (t : TypeId) (hu : u = Sha.byteV c) : ∀ j x, ([c].map Sha.byteV)[j]? = some x → (w.alloc (.cells #[u] t)).cell? ((⟨w.heap.size, 0, none⟩ : Addr).add j) = some x := by
  intro j x hj
  subst hu
  match j, hj with
  | 0, hj => simp at hj; subst hj; simp [Addr.add]
/-- string(b), of a row that may be empty. -/
theorem to_string0 (w : World) {ops : Array Oper} {rest : List Oper} {o : Oper} {a : Act} {Q : Exit → Act → World → Prop}
    (hg : o.guard = none) (x : Operand) (hop : o.op = .convert 65 9 x) {base g c : Nat} (l : List UInt8) (hx : a.eval x = .slice (some ⟨g, 0, none⟩) l.length c) (hh : ByteRow.Has base w (.slice (some ⟨g, 0, none⟩) l.length c) l)
    (k : wpList Tryd.prog ops Q rest (a.put o.dst (.string ⟨l.toArray⟩)) w) : wpList Tryd.prog ops Q (o :: rest) a w := by
  have hcell : ∀ j (hj : j < l.length), w.cell? ⟨g, j, none⟩ = some (Sha.byteV l[j]) := fun j hj => by
    rcases hh with ⟨h, _⟩ | ⟨g', cap, hv, _, _, _, hc, _⟩
    · cases h
    · cases hv; exact hc j _ (List.getElem?_eq_getElem hj)
  have hadd : ∀ j, (⟨g, 0, none⟩ : Addr).add j = ⟨g, j, none⟩ := fun j => by unfold Addr.add; split <;> simp_all
  have hr := run_convert_bytes_back (P := Tryd.prog) w 65 9 5 ⟨g, 0, none⟩ c l ctUnder46 ctUnder5 ctUnder9 (fun j hj => by rw [hadd]; exact hcell j hj)
  refine wpList_plain hg fun K hK => ?_
  unfold Oper.wp execOp
  simp only [hop, hx, Sem.run_bind, hr, Result.andThen_ok]
  exact hK _ _ k
set_option maxRecDepth 100000 in
set_option maxHeartbeats 1000000 in
theorem ctext_any (seed : Int) (n : Nat) (w : World) (hn : n ≤ 20000) :
    Calls Tryd.prog 8 #[.int .u64 seed, .int .i64 n] w fun e w' => (∃ t : ByteArray, t.size = n ∧ e = .returned (.string t)) ∧ Below w.heap.size w w' := by
  obtain ⟨i5, hi, hz0, hz1, hz2⟩ := info_parts ctInfo5
  go_enter Tryd.func8, Tryd.ntmps8
  go_wp2
  go_loopw [5, 6, 7] (fun vb vx vi wr => ∃ (j : Nat) (x : Int) (p : List UInt8) (g c : Nat), j ≤ n ∧ vi = .int .i64 j ∧ vx = .int .u64 x ∧ p.length = j ∧ vb = .slice (some ⟨g, 0, none⟩) j c ∧ Hid (ByteRow.Has w.heap.size wr (.slice (some ⟨g, 0, none⟩) j c) p ∧ Below w.heap.size w wr)) (fun _ _ vi _ => n - (intOf vi).toNat)
  case atStart => exact ⟨0, seed, [], w.heap.size, 0, Nat.zero_le _, rfl, rfl, rfl, rfl, ByteRow.Has.of_own (World.ownsRow_made w #[] 0 (Nat.le_refl _) (Nat.zero_le _) rfl), (Below.refl _ w).alloc (Nat.le_refl _) _⟩
  case round =>
    obtain ⟨j, x, p, g, c, hj, rfl, rfl, hp, rfl, HH⟩ := hrel
    by_cases hlt : j < n
    · have hlt' : (j : Int) < n := by omega
      go_wp2_with (at_builtin; refine ByteRow.append _ rfl _ _ 65 rfl 5 i5 ctUnder46 hi hz0 hz1 hz2 w.heap.size _ p rfl (HH.out.1.alloc _) ?_ ⟨wr.heap.size, 0, none⟩ 1 1 [Sha.byteOf _] rfl rfl (news_byte _ _ _ _ (Sha.byteV_of _).symm) ?_ ?_)
      · have := HH.out.2.size; simp; omega
      · simp; omega
      · intro v' w1 hown' hgrow
        obtain ⟨g', c', rfl, _⟩ := hown'.form (by simp)
        have HR := hide (And.intro hown' ((HH.out.2.alloc HH.out.2.size _).trans hgrow))
        clear hown' hgrow
        rw [show (p ++ [Sha.byteOf _]).length = j + 1 by rw [List.length_append, hp]; rfl] at HR ⊢
        go_wp2
        go_roundw
        case rel => exact ⟨j + 1, _, _, g', c', by omega, by go_num, rfl, by rw [List.length_append, hp]; rfl, rfl, HR.out⟩
        case measure => simp [intOf]; omega
    · have hjn : j = n := by omega
      subst hjn
      have hlt' : ¬ ((j : Int) < j) := by omega
      subst hp
      go_wp2_with (refine to_string0 _ rfl _ rfl p rfl HH.out.1 ?_)
      go_ret
      exact ⟨⟨⟨p.toArray⟩, by simp [ByteArray.size], rfl⟩, HH.out.2⟩
end Go.Proofs.YtigkemkebceacaaDoor
