/- A log as it lies in memory; contracts: the next segment is taken, where records come, whether they may. -/
import Derived.Test.YtoineobjmllicaaGreatDoorWalBegin
import Derived.Laws.AppendOwnNone
import Derived.Maps.AppendAt
namespace Go.Wal
open Go.RowKit Go.Dk
structure Lg where
  most : Nat
  first : Nat
  last : Nat
  size : Nat
  recs : List Bs
/-- The cells of a log. -/
def lcells (d : Nat) (l : Lg) (rv : Value) : Array Value := #[.pointer (some ⟨d, 0, none⟩), .int .i64 (l.most : Int), rv, .int .i64 (l.first : Int), .int .i64 (l.last : Int), .int .i64 (l.size : Int)]
/-- Texts as cells. -/
def tv (ls : List Bs) : List Value := ls.map fun l => Value.string ⟨l.toArray⟩
/-- Block b is a log of the disk d, its records in the row rv. -/
structure LogAt (T base b d : Nat) (l : Lg) (rv : Value) (w : World) : Prop where
  row : w.heap[b]? = some (.cells (lcells d l rv) T (0, 0))
  recs : w.ownsRow base 9 1 rv l.recs.length (tv l.recs)
  apart : rv.ownBlock ≠ some b
  ge : base ≤ b
theorem LogAt.cells {T base b d : Nat} {l : Lg} {rv : Value} {w : World} (h : LogAt T base b d l rv w) :
    w.cell? ⟨b, 0, none⟩ = some (.pointer (some ⟨d, 0, none⟩)) ∧ w.cell? ⟨b, 1, none⟩ = some (.int .i64 (l.most : Int)) ∧ w.cell? ⟨b, 2, none⟩ = some rv ∧ w.cell? ⟨b, 3, none⟩ = some (.int .i64 (l.first : Int)) ∧ w.cell? ⟨b, 4, none⟩ = some (.int .i64 (l.last : Int)) ∧ w.cell? ⟨b, 5, none⟩ = some (.int .i64 (l.size : Int)) :=
  ⟨cell_of_row _ _ _ _ _ _ h.row, cell_of_row _ _ _ _ _ _ h.row, cell_of_row _ _ _ _ _ _ h.row, cell_of_row _ _ _ _ _ _ h.row, cell_of_row _ _ _ _ _ _ h.row, cell_of_row _ _ _ _ _ _ h.row⟩
theorem LogAt.frozen {T base b d : Nat} {l : Lg} {rv : Value} {w : World} (h : LogAt T base b d l rv w) (j : Nat) : w.frozen? ⟨b, j, none⟩ = false := frozen_of_row _ _ _ _ _ h.row
theorem LogAt.below {T base b d : Nat} {l : Lg} {rv : Value} {w w' : World} (h : LogAt T base b d l rv w) (hb : Below w.heap.size w w') : LogAt T base b d l rv w' :=
  ⟨(hb.block b (block_lt h.row)).trans h.row, own_below h.recs hb, h.apart, h.ge⟩
/-- What a log's functions turn of its own. -/
abbrev Lgs (b : Nat) (rv : Value) (w w' : World) : Prop := Tch (fun k => k = b ∨ rv.ownBlock = some k) w w'
/-- Behind an append to its records, and the store of them. -/
theorem LogAt.grown {T base b d : Nat} {l : Lg} {rv rv' : Value} {w w3 : World} {more : List Bs} (h : LogAt T base b d l rv w) (hg : w.grownBy w3 rv.ownBlock) (hown : w3.ownsRow base 9 1 rv' (l.recs.length + more.length) (tv l.recs ++ tv more)) (hat : rv'.ownBlock = rv.ownBlock ∨ rv'.ownBlock = some w.heap.size) :
    LogAt T base b d ⟨l.most, l.first, l.last, l.size, l.recs ++ more⟩ rv' (w3.setCell ⟨b, 2, none⟩ rv') ∧ Lgs b rv w (w3.setCell ⟨b, 2, none⟩ rv') := by
  have hbl : b < w.heap.size := block_lt h.row
  have hap : rv'.ownBlock ≠ some b := by
    rcases hat with e | e
    · rw [e]; exact h.apart
    · rw [e]; intro x; cases x; exact Nat.lt_irrefl _ hbl
  have r3 : w3.heap[b]? = some (.cells (lcells d l rv) T (0, 0)) := (hg.block b hbl (fun e => h.apart e.symm)).trans h.row
  refine ⟨⟨by rw [heap_setCell_same _ _ _ _ _ _ r3]; rfl, ?_, hap, h.ge⟩, ?_⟩
  · have : (l.recs ++ more).length = l.recs.length + more.length := List.length_append
    show (w3.setCell ⟨b, 2, none⟩ rv').ownsRow base 9 1 rv' (l.recs ++ more).length (tv (l.recs ++ more))
    rw [this, show tv (l.recs ++ more) = tv l.recs ++ tv more from List.map_append]
    exact ownsRow_kept hown fun g hg' => heap_setCell_other _ _ _ _ fun e => hap (by rw [← show g = b from e]; exact hg')
  · refine ⟨hg.os, hg.tape, hg.output, ?_, fun k hk hx => ?_⟩
    · rw [World.size_setCell]
      exact hg.size
    · rw [heap_setCell_other _ _ _ _ fun e => hx (.inl e)]
      exact hg.block k hk fun e => hx (.inr e.symm)
/-- Behind a store into another field. -/
theorem LogAt.set {T base b d : Nat} {l l' : Lg} {rv : Value} {w : World} (h : LogAt T base b d l rv w) (j : Nat) (v : Value) (hc : (lcells d l rv).setIfInBounds j v = lcells d l' rv) (hr : l'.recs = l.recs) : LogAt T base b d l' rv (w.setCell ⟨b, j, none⟩ v) :=
  ⟨by rw [heap_setCell_same _ _ _ _ _ _ h.row, hc], by rw [hr]; exact ownsRow_kept h.recs fun g hg => heap_setCell_other _ _ _ _ fun e => h.apart (by rw [← show g = b from e]; exact hg), h.apart, h.ge⟩
theorem lgs_set {b : Nat} {rv : Value} {w w' : World} (h : Lgs b rv w w') (j : Nat) (v : Value) : Lgs b rv w (w'.setCell ⟨b, j, none⟩ v) :=
  ⟨h.os, h.tape, h.output, by rw [World.size_setCell]; exact h.size, fun k hk hx => by rw [heap_setCell_other _ _ _ _ fun e => hx (.inl e)]; exact h.block k hk hx⟩
end Go.Wal
namespace Go.Proofs.YtoineobjmllicaaGreatDoor
open Go.RowKit Go.Dk Go.Wal
variable {M : Nat → Prop}
abbrev TLog : Nat := 69
set_option maxHeartbeats 1000000 in
theorem takeSegment_no (b n : Nat) (s : Bs) (w : World) (hs : s.length ≤ 1000000) (hh : head s = none) :
    Calls Tryz.prog 67 #[.pointer (some ⟨b, 0, none⟩), .int .i64 n, .string ⟨s.toArray⟩] w fun e w' => e = .returned (.bool false) ∧ Below w.heap.size w w' := by
  have HT : Hid (Calls Tryz.prog 92 #[.string ⟨s.toArray⟩] w fun e w' => e = .returned (.tuple #[.string ⟨#[]⟩, .int .i64 0]) ∧ Below w.heap.size w w') := by
    have := takeHead_any s w hs
    rw [hh] at this
    exact this
  go_enter Tryz.func67, Tryz.ntmps67
  go_wp2_with (go_at_call 92; refine HT.out.mono ?_; rintro e w1 ⟨rfl, k1⟩)
  go_ret
  exact ⟨rfl, k1⟩
set_option maxRecDepth 100000 in
set_option maxHeartbeats 2000000 in
theorem takeSegment_some (base b d n : Nat) (l : Lg) (rv : Value) (s : Bs) (bh : Bool) (w : World) (h : LogAt TLog base b d l rv w) (hbase : base ≤ w.heap.size) (hs : s.length ≤ 1000000) (hr : l.recs.length ≤ 1000000) (hh : head s = some bh) :
    Calls Tryz.prog 67 #[.pointer (some ⟨b, 0, none⟩), .int .i64 n, .string ⟨s.toArray⟩] w fun e w' => e = .returned (.bool true) ∧ ∃ rv', LogAt TLog base b d ⟨l.most, l.first, n, whole s, l.recs ++ body s⟩ rv' w' ∧ Lgs b rv w w' := by
  have HT : Hid (∃ t, (t == ([] : Bs)) = false ∧ Calls Tryz.prog 92 #[.string ⟨s.toArray⟩] w fun e w' => e = .returned (.tuple #[.string ⟨t.toArray⟩, .int .i64 17]) ∧ Below w.heap.size w w') := by
    have := takeHead_any s w hs
    rw [hh] at this
    cases bh
    · exact ⟨[71], rfl, this⟩
    · exact ⟨[66], rfl, this⟩
  obtain ⟨t, ht, HT⟩ := HT
  have HT := hide HT
  have hwl := whole_le hh
  have hw17 : 17 ≤ s.length := by unfold whole at hwl; omega
  have HR : Hid (∀ w1, Below w.heap.size w w1 → Calls Tryz.prog 94 #[.string ⟨s.toArray⟩, .int .i64 17] w1 fun e w' => ∃ v, e = .returned (.tuple #[v, .int .i64 (whole s : Int)]) ∧ w'.ownsRow w1.heap.size 9 1 v (body s).length (tv (body s)) ∧ Below w.heap.size w w') := fun w1 h1 =>
    (takeRecords_any s 17 w1 hs hw17).mono fun e w' ⟨v, he, ho, hb⟩ => ⟨v, he, ho, h1.trans (hb.mono h1.size)⟩
  have hbl : (body s).length ≤ 1000000 := by
    have h17 : ∀ l : List Bs, l.length ≤ (frs l).length := fun l => by
      induction l with
      | nil => exact Nat.le_refl _
      | cons r l ih => show _ ≤ (fr (114 :: r) ++ frs l).length; rw [List.length_append, fr_length, List.length_cons]; omega
    have := h17 (body s)
    unfold whole at hwl
    omega
  obtain ⟨i9, hi9, hz0, hz1, hz2⟩ := info_parts info_str
  have HL := hide h
  clear h hwl
  generalize hB : body s = B at *
  generalize hW : whole s = W at *
  clear hB hW
  obtain ⟨ra, rc, hrv⟩ := own_form HL.out.recs
  subst hrv
  go_enter Tryz.func67, Tryz.ntmps67
  go_upto_region 5 with (first
    | (go_at_call 92; refine HT.out.mono ?_; rintro e w1 ⟨rfl, k1⟩; have K1 := hide k1; clear k1)
    | (go_at_call 94; refine (HR.out w1 K1.out).mono ?_; rintro e w2 ⟨v, rfl, ho, k2⟩; have H2 := hide (And.intro ho k2); clear ho k2))
  have L2 := hide (HL.out.below H2.out.2)
  obtain ⟨q0, q1, q2, q3, q4, q5⟩ := L2.out.cells
  rcases H2.out.1.2 with ⟨hv, hn0⟩ | ⟨g, cap, cur, hv, _⟩
  · subst hv
    have hBn : B = [] := List.length_eq_zero_iff.1 hn0
    subst hBn
    have f2 := L2.out.frozen 2
    go_upto_region 6 with (at_builtin; refine wpList_append_own_none rfl _ _ 30 rfl base 9 i9 1 under_strs hi9 _ _ _ rfl L2.out.recs rfl ?_)
    have L3 := hide (L2.out.set (l' := l) 2 (.slice ra l.recs.length rc) rfl rfl)
    have f4 := L3.out.frozen 4
    obtain ⟨-, -, -, -, p4, -⟩ := L3.out.cells
    have L4 := hide (L3.out.set (l' := ⟨l.most, l.first, n, l.size, l.recs⟩) 4 (.int .i64 (n : Int)) rfl rfl)
    have f5 := L4.out.frozen 5
    obtain ⟨-, -, -, -, -, p5⟩ := L4.out.cells
    go_wp2
    go_ret
    refine ⟨rfl, ⟨.slice ra l.recs.length rc, ?_⟩, lgs_set (lgs_set (lgs_set (Tch.of_below H2.out.2) 2 _) 4 _) 5 _⟩
    exact L4.out.set (l' := ⟨l.most, l.first, n, W, l.recs⟩) 5 (.int .i64 (W : Int)) rfl rfl
  · subst hv
    go_upto_region 6 with (at_builtin; refine wpList_append_own_at _ rfl _ _ 30 rfl base 9 i9 (.string ⟨#[]⟩) 1 16 under_strs hi9 hz0 hz1 hz2 rfl (by decide) _ _ _ rfl L2.out.recs ⟨g, 0, none⟩ B.length cap (tv B) rfl ?a1 ?a2 ?a3 ?a4 ?a5 ?a6 ?_)
    case a1 => unfold tv; rw [List.length_map, Nat.mul_one]
    case a2 => exact fun j u hj => H2.out.1.cells rfl j u hj
    case a3 => intro u hu; unfold tv at hu; obtain ⟨x, _, rfl⟩ := List.mem_map.1 hu; rfl
    case a4 => unfold maxLen; omega
    case a5 => omega
    case a6 => exact Nat.le_trans hbase H2.out.2.size
    intro rv' w3 hown hgrow _ hat
    obtain ⟨ra', rc', hrv'⟩ := own_form hown
    subst hrv'
    have G3 := L2.out.grown hgrow hown hat
    have f2 : w3.frozen? ⟨b, 2, none⟩ = false := frozen_of_row _ _ _ _ _ ((hgrow.block b (block_lt L2.out.row) (fun e => L2.out.apart e.symm)).trans L2.out.row)
    have p2 : w3.cell? ⟨b, 2, none⟩ = some (.slice ra l.recs.length rc) := cell_of_row _ _ _ _ _ _ ((hgrow.block b (block_lt L2.out.row) (fun e => L2.out.apart e.symm)).trans L2.out.row)
    have GT : Hid (Lgs b (.slice ra l.recs.length rc) w (w3.setCell ⟨b, 2, none⟩ (.slice ra' (l.recs.length + B.length) rc'))) := Tch.and (Tch.of_below H2.out.2) G3.2
    have L3 := hide G3.1
    have f4 := L3.out.frozen 4
    obtain ⟨-, -, -, -, p4, -⟩ := L3.out.cells
    have L4 := hide (L3.out.set (l' := ⟨l.most, l.first, n, l.size, l.recs ++ B⟩) 4 (.int .i64 (n : Int)) rfl rfl)
    have f5 := L4.out.frozen 5
    obtain ⟨-, -, -, -, -, p5⟩ := L4.out.cells
    clear hown hgrow hat G3
    go_wp2
    go_ret
    exact ⟨rfl, ⟨_, L4.out.set (l' := ⟨l.most, l.first, n, W, l.recs ++ B⟩) 5 (.int .i64 (W : Int)) rfl rfl⟩, lgs_set (lgs_set GT.out 4 _) 5 _⟩
end Go.Proofs.YtoineobjmllicaaGreatDoor
