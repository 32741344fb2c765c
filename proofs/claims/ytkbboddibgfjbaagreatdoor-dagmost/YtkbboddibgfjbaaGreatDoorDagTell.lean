/- Contracts: a new Dag; what is there, what waits. -/
import Derived.Test.YtkbboddibgfjbaaGreatDoorDagMem
import Derived.Test.YtkbboddibgfjbaaGreatDoorQuietAll
namespace Go.Proofs.YtkbboddibgfjbaaGreatDoor
open Go.RowKit Go.Nod Go.MapFun Go.Dag
attribute [local go_sem] Oper.semAt_some
theorem zeroNd (w : World) : (zeroValue 60).run Tryz.prog w = .ok (Nd.zero.v (.slice none 0 0)) w := by kernel_rfl
theorem dagMap1 : Tryz.prog.underlying 72 = some (.map 9 60) := Tryz.underlying72
theorem dagInfo : (Tryz.prog.info? 75).map (·.size) = some 6 := by kernel_rfl
/-- What a Dag's map of nodes has for a digest. -/
def gotN (sl : ByteArray → Sl) (h : ByteArray) : Option Nd → Value
  | some n => .tuple #[n.v (sl h).v, .bool true]
  | none => .tuple #[Nd.zero.v (.slice none 0 0), .bool false]
theorem got_nx (sl : ByteArray → Sl) (h : ByteArray) (l : Ns) : got true (Nd.zero.v (.slice none 0 0)) ndE (lk (told sl l) h) = gotN sl h (lk l h) := by
  rw [lk_told]
  cases lk l h <;> rfl
set_option maxRecDepth 100000 in
theorem newDag_any (rb : Nat) (sv : Value) (ks : List ByteArray) (w : World) (hc : w.cell? ⟨rb, 0, none⟩ = some sv) (hr : StrRow.Reads w sv ks) :
    Calls Tryz.prog 8 #[.pointer (some ⟨rb, 0, none⟩)] w fun e w' => ∃ F sl, e = .returned (.tuple #[.pointer (some ⟨F.b, 0, none⟩), .int .i64 0]) ∧ DagAt Tryz.prog 75 w.heap.size F ks sl ⟨[], []⟩ w' ∧ Below w.heap.size w w' := by
  have hmk := @run_makeMap Tryz.prog
  obtain ⟨a, c, rfl⟩ := hr.form
  have HR := hide hr
  clear hr
  go_enter Tryz.func8, Tryz.ntmps8
  go_wp2
  go_ret2
  have e0 : ((((w.alloc (.map #[] 0)).alloc (.map #[] 0)).alloc (.map #[] 0)).alloc (.cells #[.slice a ks.length c, .map (some w.heap.size), .slice none 0 0, .map (some (w.heap.size + 1)), .map (some (w.heap.size + 1 + 1)), .slice none 0 0] 75)).heap.size = w.heap.size + 4 := by simp
  have k1 : Below w.heap.size w (((w.alloc (.map #[] 0)).alloc (.map #[] 0)).alloc (.map #[] 0)) := (((Below.refl _ w).alloc (Nat.le_refl _) _).alloc (by simp) _).alloc (by simp; omega) _
  have k2 := k1.alloc k1.size (.cells #[.slice a ks.length c, .map (some w.heap.size), .slice none 0 0, .map (some (w.heap.size + 1)), .map (some (w.heap.size + 1 + 1)), .slice none 0 0] 75)
  refine ⟨⟨w.heap.size + 1 + 1 + 1, w.heap.size, w.heap.size + 1, w.heap.size + 1 + 1, .slice a ks.length c, .slice none 0 0, .slice none 0 0⟩, fun _ => ⟨none, 0, 0⟩, rfl, ?_, k2⟩
  refine ⟨⟨?_, low_of HR.out k2, ?_, World.ownsRow_nil _ _ _ _, ?_, ?_, World.ownsRow_nil _ _ _ _, ⟨fun x hx => (by cases hx), fun x hx => (by cases hx)⟩, (by show w.heap.size ≠ w.heap.size + 1; omega), (by show w.heap.size ≠ w.heap.size + 1 + 1; omega), (by show w.heap.size + 1 ≠ w.heap.size + 1 + 1; omega), (fun x hx => by cases hx), (by decide), ⟨(by show w.heap.size ≤ w.heap.size + 1 + 1 + 1; omega), Nat.le_refl _, (by show w.heap.size ≤ w.heap.size + 1; omega), (by show w.heap.size ≤ w.heap.size + 1 + 1; omega)⟩⟩, ⟨List.nodup_nil, fun x hx => (by cases hx)⟩⟩
  · have := heap_alloc_new (((w.alloc (.map #[] 0)).alloc (.map #[] 0)).alloc (.map #[] 0)) (.cells #[.slice a ks.length c, .map (some w.heap.size), .slice none 0 0, .map (some (w.heap.size + 1)), .map (some (w.heap.size + 1 + 1)), .slice none 0 0] 75)
    simpa using this
  · exact (MapL.made Tryz.prog ndE w).below ((((Below.refl _ _).alloc (Nat.le_refl _) _).alloc (by simp) _).alloc (by simp) _)
  · have := (MapL.made Tryz.prog u64E (w.alloc (.map #[] 0))).below (((Below.refl _ _).alloc (Nat.le_refl _) (.map #[] 0)).alloc (by simp) (.cells #[.slice a ks.length c, .map (some w.heap.size), .slice none 0 0, .map (some (w.heap.size + 1)), .map (some (w.heap.size + 1 + 1)), .slice none 0 0] 75))
    simp at this
    exact this
  · have := (MapL.made Tryz.prog ndE ((w.alloc (.map #[] 0)).alloc (.map #[] 0))).below ((Below.refl _ _).alloc (Nat.le_refl _) (.cells #[.slice a ks.length c, .map (some w.heap.size), .slice none 0 0, .map (some (w.heap.size + 1)), .map (some (w.heap.size + 1 + 1)), .slice none 0 0] 75))
    simp at this
    exact this
set_option maxRecDepth 100000 in
theorem hasDag_any {base : Nat} {F : Fp} {ks : List ByteArray} {sl : ByteArray → Sl} {r : Rw} (s : ByteArray) (w : World) (h : DagR Tryz.prog 75 base F ks sl r w) (hs : s.size ≤ maxLen) :
    Calls Tryz.prog 21 #[.pointer (some ⟨F.b, 0, none⟩), .string s] w fun e w' => e = .returned (.bool (lk r.N s).isSome) ∧ Below w.heap.size w w' := by
  obtain ⟨c0, c1, c2, c3, c4, c5⟩ := h.cells
  have hl := h.nodes.look Tryz.underlying9 dagMap1 (zeroNd w) true s hs
  rw [got_nx] at hl
  clear h c0 c2 c3 c4 c5
  cases hk : lk r.N s with
  | none =>
    rw [hk] at hl
    unfold gotN Nd.v Nd.zero Opn.Ob.zero at hl
    dsimp only at hl
    go_enter Tryz.func21, Tryz.ntmps21
    go_wp2
    go_ret
    exact ⟨rfl, (Below.refl _ w).alloc (Nat.le_refl _) _⟩
  | some n =>
    obtain ⟨sa, sn, sc, hsl⟩ := (sl s).form
    rw [hk] at hl
    unfold gotN Nd.v at hl
    rw [hsl] at hl
    dsimp only at hl
    go_enter Tryz.func21, Tryz.ntmps21
    go_wp2
    go_ret
    exact ⟨rfl, (Below.refl _ w).alloc (Nat.le_refl _) _⟩
set_option maxRecDepth 100000 in
theorem waitsDag_any {base : Nat} {F : Fp} {ks : List ByteArray} {sl : ByteArray → Sl} {r : Rw} (s : ByteArray) (w : World) (h : DagR Tryz.prog 75 base F ks sl r w) (hs : s.size ≤ maxLen) :
    Calls Tryz.prog 48 #[.pointer (some ⟨F.b, 0, none⟩), .string s] w fun e w' => e = .returned (.bool (lk r.W s).isSome) ∧ Below w.heap.size w w' := by
  obtain ⟨c0, c1, c2, c3, c4, c5⟩ := h.cells
  have hl := h.waiting.look Tryz.underlying9 dagMap1 (zeroNd w) true s hs
  rw [got_nx] at hl
  clear h c0 c1 c2 c3 c5
  cases hk : lk r.W s with
  | none =>
    rw [hk] at hl
    unfold gotN Nd.v Nd.zero Opn.Ob.zero at hl
    dsimp only at hl
    go_enter Tryz.func48, Tryz.ntmps48
    go_wp2
    go_ret
    exact ⟨rfl, (Below.refl _ w).alloc (Nat.le_refl _) _⟩
  | some n =>
    obtain ⟨sa, sn, sc, hsl⟩ := (sl s).form
    rw [hk] at hl
    unfold gotN Nd.v at hl
    rw [hsl] at hl
    dsimp only at hl
    go_enter Tryz.func48, Tryz.ntmps48
    go_wp2
    go_ret
    exact ⟨rfl, (Below.refl _ w).alloc (Nat.le_refl _) _⟩
set_option maxRecDepth 100000 in
theorem lenDag_any {base : Nat} {F : Fp} {ks : List ByteArray} {sl : ByteArray → Sl} {r : Rw} (w : World) (h : DagR Tryz.prog 75 base F ks sl r w) :
    Calls Tryz.prog 23 #[.pointer (some ⟨F.b, 0, none⟩)] w fun e w' => e = .returned (.int .i64 r.N.length) ∧ w' = w := by
  obtain ⟨c0, c1, c2, c3, c4, c5⟩ := h.cells
  have hl := fun ty => h.nodes.len dagMap1 ty
  rw [told_length] at hl
  clear h c0 c2 c3 c4 c5
  go_enter Tryz.func23, Tryz.ntmps23
  go_wp2
  go_ret
  exact ⟨rfl, rfl⟩
set_option maxRecDepth 100000 in
theorem waitsLen_any {base : Nat} {F : Fp} {ks : List ByteArray} {sl : ByteArray → Sl} {r : Rw} (w : World) (h : DagR Tryz.prog 75 base F ks sl r w) :
    Calls Tryz.prog 18 #[.pointer (some ⟨F.b, 0, none⟩)] w fun e w' => e = .returned (.int .i64 r.W.length) ∧ w' = w := by
  obtain ⟨c0, c1, c2, c3, c4, c5⟩ := h.cells
  have hl := fun ty => h.waiting.len dagMap1 ty
  rw [told_length] at hl
  clear h c0 c1 c2 c3 c5
  go_enter Tryz.func18, Tryz.ntmps18
  go_wp2
  go_ret
  exact ⟨rfl, rfl⟩
end Go.Proofs.YtkbboddibgfjbaaGreatDoor
