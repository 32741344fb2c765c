/- Several texts in one: WireTakes, OpTake, OpDecode. -/
import Derived.Test.YtkbboddibgfjbaaGreatDoorWireMid
import Derived.Test.YtkbboddibgfjbaaGreatDoorOpOne
import Derived.Test.YtkbboddibgfjbaaGreatDoorOpRefs
/- Contracts of the program's reader: counts, texts, digests, yes and no, the end. -/
namespace Go.Proofs.YtkbboddibgfjbaaGreatDoor
open Go.RowKit Go.Wire
set_option maxHeartbeats 1000000 in
theorem count_any (b : Nat) (q : St) (most : Int) (w : World) (h : Rd 246 b q w) (hq : q.pos ≤ q.s.size) (hs : q.s.size ≤ maxLen) (hm1 : most ≤ 9223372036854775807) :
    Calls Tryz.prog 168 #[.pointer (some ⟨b, 0, none⟩), .int .i64 most] w fun e w' => e = .returned (.int .i64 ((q.count most).2 : Nat)) ∧ Rd 246 b (q.count most).1 w' ∧ Kept b w w' := by
  have hlt : (q.number 4).2 < 4294967296 := q.number_lt 4 (by decide)
  have hps := q.number_le 4 hq
  have hpq := q.number_s 4
  have HN : ∀ {w : World}, Rd 246 b q w → Hid (Calls Tryz.prog 127 #[.pointer (some ⟨b, 0, none⟩), .int .i64 4] w fun e w' => e = .returned (.int .u64 ((q.number 4).2 : Nat)) ∧ Rd 246 b (q.number 4).1 w' ∧ Kept b w w') := fun h => readerNumber_any b q 4 _ h hq hs
  by_cases hm : most < 0
  · rw [St.count_no q most (.inl hm)]
    generalize (q.number 4).2 = n at hlt HN
    generalize (q.number 4).1 = p at hps hpq HN
    go_enter Tryz.func168, Tryz.ntmps168
    go_wp2_with (first
      | (go_at_call 161; refine (at_any b q _ h).mono ?_; rintro e w' ⟨rfl, rfl⟩)
      | (go_at_call 127; refine (HN h).out.mono ?_; rintro e w1 ⟨rfl, h1, k1⟩)
      | (go_at_call 164; refine (give_any b q.pos p 3 _ (by assumption)).mono ?_; rintro e w2 ⟨rfl, h2, k2⟩))
    go_ret
    exact ⟨rfl, by assumption, Kept.trans (by assumption) (by assumption)⟩
  · by_cases hn : most < (q.number 4).2
    · rw [St.count_no q most (.inr hn)]
      generalize (q.number 4).2 = n at hlt HN hn
      generalize (q.number 4).1 = p at hps hpq HN
      go_enter Tryz.func168, Tryz.ntmps168
      go_wp2_with (first
        | (go_at_call 161; refine (at_any b q _ h).mono ?_; rintro e w' ⟨rfl, rfl⟩)
        | (go_at_call 127; refine (HN h).out.mono ?_; rintro e w1 ⟨rfl, h1, k1⟩)
        | (go_at_call 164; refine (give_any b q.pos p 3 _ (by assumption)).mono ?_; rintro e w2 ⟨rfl, h2, k2⟩))
      go_ret
      exact ⟨rfl, by assumption, Kept.trans (by assumption) (by assumption)⟩
    · rw [St.count_yes q most (fun x => x.elim hm hn)]
      generalize (q.number 4).2 = n at hlt HN hn
      generalize (q.number 4).1 = p at hps hpq HN
      go_enter Tryz.func168, Tryz.ntmps168
      go_wp2_with (first
        | (go_at_call 161; refine (at_any b q _ h).mono ?_; rintro e w' ⟨rfl, rfl⟩)
        | (go_at_call 127; refine (HN h).out.mono ?_; rintro e w1 ⟨rfl, h1, k1⟩))
      go_ret
      exact ⟨rfl, by assumption, by assumption⟩
set_option maxHeartbeats 1000000 in
theorem text_any (b : Nat) (q : St) (most : Int) (w : World) (h : Rd 246 b q w) (hq : q.pos ≤ q.s.size) (hs : q.s.size ≤ maxLen) (hm1 : most ≤ 9223372036854775807) :
    Calls Tryz.prog 167 #[.pointer (some ⟨b, 0, none⟩), .int .i64 most] w fun e w' => e = .returned (.string (q.text most).2) ∧ Rd 246 b (q.text most).1 w' ∧ Kept b w w' := by
  have hlt := q.count_lt most
  have hps := q.count_le most hq
  have hpq := q.count_s most
  have hne := St.back_ne (q.count most).1 q.pos 4 (by decide)
  have HN : ∀ {w : World}, Rd 246 b q w → Hid (Calls Tryz.prog 168 #[.pointer (some ⟨b, 0, none⟩), .int .i64 most] w fun e w' => e = .returned (.int .i64 ((q.count most).2 : Nat)) ∧ Rd 246 b (q.count most).1 w' ∧ Kept b w w') := fun h => count_any b q most _ h hq hs hm1
  by_cases hc : (q.s.size : Int) - (q.count most).1.pos < (q.count most).2
  · rw [St.text_cut q most hq hc]
    generalize (q.count most).2 = n at hlt HN hc
    generalize (q.count most).1 = p at hps hpq HN hc hne
    rw [← hpq] at hc hps hs
    have hbe := St.bytes_err (p.back q.pos 4) n hne
    have hbs := St.back_s p q.pos 4
    have hle := St.back_le p q.pos 4 p.s.size hps (by rw [hpq]; exact hq)
    have HB : ∀ {w : World}, Rd 246 b (p.back q.pos 4) w → Hid (Calls Tryz.prog 163 #[.pointer (some ⟨b, 0, none⟩), .int .i64 n] w fun e w' => e = .returned (.string ⟨#[]⟩) ∧ Rd 246 b (p.back q.pos 4) w' ∧ Kept b w w') := fun h => by
      have := bytes_any b _ n _ h (by rw [hbs]; exact hle) (by rw [hbs]; exact hs)
      rwa [hbe] at this
    have HG : ∀ {w : World}, Rd 246 b p w → Hid (Calls Tryz.prog 164 #[.pointer (some ⟨b, 0, none⟩), .int .i64 q.pos, .int .i64 4] w fun e w' => e = .returned (.tuple #[]) ∧ Rd 246 b (p.back q.pos 4) w' ∧ Kept b w w') := fun h => give_any b q.pos p 4 _ h
    clear hbe hbs hne hle hpq
    generalize p.back q.pos 4 = r at HB HG
    go_enter Tryz.func167, Tryz.ntmps167
    go_wp2_with (first
      | (go_at_call 161; refine (at_any b q _ h).mono ?_; rintro e w' ⟨rfl, rfl⟩)
      | (go_at_call 168; refine (HN h).out.mono ?_; rintro e w1 ⟨rfl, h1, k1⟩)
      | (go_at_call 170; refine (left_any b p _ (by assumption) hps hs).mono ?_; rintro e w' ⟨rfl, rfl⟩)
      | (go_at_call 164; refine (HG (by assumption)).out.mono ?_; rintro e w2 ⟨rfl, h2, k2⟩)
      | (go_at_call 163; refine (HB (by assumption)).out.mono ?_; rintro e w3 ⟨rfl, h3, k3⟩))
    go_ret
    exact ⟨rfl, by assumption, ((Kept.trans (by assumption) (Kept.refl _ _).drew).trans (by assumption)).trans (by assumption)⟩
  · rw [St.text_ok q most hc]
    generalize (q.count most).2 = n at hlt HN hc
    generalize (q.count most).1 = p at hps hpq HN hc
    rw [← hpq] at hc hps hs
    clear hpq
    have HB : ∀ {w : World}, Rd 246 b p w → Hid (Calls Tryz.prog 163 #[.pointer (some ⟨b, 0, none⟩), .int .i64 n] w fun e w' => e = .returned (.string (p.bytes n).2) ∧ Rd 246 b (p.bytes n).1 w' ∧ Kept b w w') := fun h => bytes_any b p n _ h hps hs
    go_enter Tryz.func167, Tryz.ntmps167
    go_wp2_with (first
      | (go_at_call 161; refine (at_any b q _ h).mono ?_; rintro e w' ⟨rfl, rfl⟩)
      | (go_at_call 168; refine (HN h).out.mono ?_; rintro e w1 ⟨rfl, h1, k1⟩)
      | (go_at_call 170; refine (left_any b p _ (by assumption) hps hs).mono ?_; rintro e w' ⟨rfl, rfl⟩)
      | (go_at_call 163; refine (HB (by assumption)).out.mono ?_; rintro e w3 ⟨rfl, h3, k3⟩))
    go_ret
    exact ⟨rfl, by assumption, (Kept.trans (by assumption) (Kept.refl _ _).drew).trans (by assumption)⟩
set_option maxHeartbeats 400000 in
theorem hash_any (b : Nat) (q : St) (w : World) (h : Rd 246 b q w) (hq : q.pos ≤ q.s.size) (hs : q.s.size ≤ maxLen) :
    Calls Tryz.prog 130 #[.pointer (some ⟨b, 0, none⟩)] w fun e w' => e = .returned (.string (q.bytes 32).2) ∧ Rd 246 b (q.bytes 32).1 w' ∧ Kept b w w' := by
  go_enter Tryz.func130, Tryz.ntmps130
  go_wp2_with (go_at_call 163; refine (bytes_any b q 32 _ h hq hs).mono ?_; rintro e w1 ⟨rfl, h1, k1⟩)
  go_ret
  exact ⟨rfl, by assumption, by assumption⟩
set_option maxHeartbeats 1000000 in
theorem bool_any (b : Nat) (q : St) (w : World) (h : Rd 246 b q w) (hq : q.pos ≤ q.s.size) (hs : q.s.size ≤ maxLen) :
    Calls Tryz.prog 166 #[.pointer (some ⟨b, 0, none⟩)] w fun e w' => e = .returned (.bool q.bool.2) ∧ Rd 246 b q.bool.1 w' ∧ Kept b w w' := by
  have HN : ∀ {w : World}, Rd 246 b q w → Hid (Calls Tryz.prog 163 #[.pointer (some ⟨b, 0, none⟩), .int .i64 1] w fun e w' => e = .returned (.string (q.bytes 1).2) ∧ Rd 246 b (q.bytes 1).1 w' ∧ Kept b w w') := fun h => bytes_any b q 1 _ h hq hs
  by_cases hy : (q.bytes 1).2 = ⟨#[121]⟩
  · rw [St.bool_y q hy]
    rw [hy] at HN
    clear hy
    generalize (q.bytes 1).1 = p at HN
    go_enter Tryz.func166, Tryz.ntmps166
    go_wp2_with (first
      | (go_at_call 161; refine (at_any b q _ h).mono ?_; rintro e w' ⟨rfl, rfl⟩)
      | (go_at_call 163; refine (HN h).out.mono ?_; rintro e w1 ⟨rfl, h1, k1⟩))
    go_ret
    exact ⟨rfl, by assumption, by assumption⟩
  · by_cases hn : (q.bytes 1).2 = ⟨#[110]⟩
    · rw [St.bool_n q hn]
      rw [hn] at HN
      clear hy hn
      generalize (q.bytes 1).1 = p at HN
      go_enter Tryz.func166, Tryz.ntmps166
      go_wp2_with (first
        | (go_at_call 161; refine (at_any b q _ h).mono ?_; rintro e w' ⟨rfl, rfl⟩)
        | (go_at_call 163; refine (HN h).out.mono ?_; rintro e w1 ⟨rfl, h1, k1⟩))
      go_ret
      exact ⟨rfl, by assumption, by assumption⟩
    · rw [St.bool_other q hy hn]
      generalize (q.bytes 1).1 = p at HN
      generalize (q.bytes 1).2 = t at HN hy hn
      have hy2 := lit_ne (l := [121]) rfl hy
      have hn2 := lit_ne (l := [110]) rfl hn
      clear hy hn
      go_enter Tryz.func166, Tryz.ntmps166
      go_wp2_with (first
        | (go_at_call 161; refine (at_any b q _ h).mono ?_; rintro e w' ⟨rfl, rfl⟩)
        | (go_at_call 163; refine (HN h).out.mono ?_; rintro e w1 ⟨rfl, h1, k1⟩)
        | (go_at_call 164; refine (give_any b q.pos p 6 _ (by assumption)).mono ?_; rintro e w2 ⟨rfl, h2, k2⟩))
      go_ret
      exact ⟨rfl, by assumption, Kept.trans (by assumption) (by assumption)⟩
set_option maxHeartbeats 400000 in
theorem end_any (b : Nat) (q : St) (w : World) (h : Rd 246 b q w) (hq : q.pos ≤ q.s.size) (hs : q.s.size ≤ maxLen) :
    Calls Tryz.prog 131 #[.pointer (some ⟨b, 0, none⟩)] w fun e w' => e = .returned (.int .i64 q.fin.err) ∧ Rd 246 b q.fin w' ∧ Kept b w w' := by
  by_cases hl : 0 < (q.s.size : Int) - q.pos
  · rw [St.fin_fail q hl]
    go_enter Tryz.func131, Tryz.ntmps131
    go_wp2_with (first
      | (go_at_call 170; refine (left_any b q _ h hq hs).mono ?_; rintro e w' ⟨rfl, rfl⟩)
      | (go_at_call 160; refine (fail_any b q 5 _ (by exact h)).mono ?_; rintro e w1 ⟨rfl, h1, k1⟩)
      | (go_at_call 169; refine (err_any b (q.fail 5) _ (by assumption)).mono ?_; rintro e w' ⟨rfl, rfl⟩))
    go_ret
    exact ⟨rfl, by assumption, ((Kept.refl b w).drew).trans (by assumption)⟩
  · rw [St.fin_end q hl]
    go_enter Tryz.func131, Tryz.ntmps131
    go_wp2_with (first
      | (go_at_call 170; refine (left_any b q _ h hq hs).mono ?_; rintro e w' ⟨rfl, rfl⟩)
      | (go_at_call 169; refine (err_any b q _ (by exact h)).mono ?_; rintro e w' ⟨rfl, rfl⟩))
    go_ret
    exact ⟨rfl, h, (Kept.refl _ _).drew⟩
end Go.Proofs.YtkbboddibgfjbaaGreatDoor
/- Contracts: an operation off a reader, the program's. -/
namespace Go.Opn
open Go.RowKit Go.Wire Go.Stamp
/-- While an operation is taken: the reader in block b, what is answered in block g, the operation in block h. -/
structure TkOp (T S b g h : Nat) (w0 : World) (q : St) (o : Ob) (w : World) : Prop where
  rd : Rd T b q w
  z : w.heap[g]? = some (.cells Ob.zero.cs S (0, 0))
  o : w.heap[h]? = some (.cells o.cs S (0, 0))
  kept : Kept b w0 w
  hb : b < w0.heap.size
  hg : w0.heap.size = g
  hh : w0.heap.size < h
theorem TkOp.start {T S b : Nat} {q r : St} {w w1 w2 w3 : World} (h : Rd T b q w) (k1 : Kept b (w.alloc (.cells Ob.zero.cs S)) w1) (k2 : Kept b w1 w2) (k3 : Kept b w2 w3) (h3 : Rd T b r w3) (o : Ob) :
    TkOp T S b w.heap.size w3.heap.size w r o (w3.alloc (.cells o.cs S)) := by
  have hlt := h.lt
  have ka : Kept b w (w.alloc (.cells Ob.zero.cs S)) := Kept.of_below ((Below.refl _ _).alloc (Nat.le_refl _) _) hlt
  have kb : Kept b w w3 := ((ka.trans k1).trans k2).trans k3
  have kc := (k1.trans k2).trans k3
  have hz : w3.heap[w.heap.size]? = some (.cells Ob.zero.cs S (0, 0)) := (kc.other w.heap.size (by omega) (by simp)).trans (heap_alloc_new _ _)
  have hs := row_lt hz
  exact ⟨h3.of_heap (heap_alloc_old w3 _ h3.lt), kept_alloc hz _, heap_alloc_new _ _, kb.trans (Kept.of_below ((Below.refl _ _).alloc (Nat.le_refl _) _) h3.lt), hlt, rfl, hs⟩
theorem TkOp.read {T S b g h : Nat} {w0 w w' : World} {q q' : St} {o : Ob} (i : TkOp T S b g h w0 q o w) (r : Rd T b q' w') (k : Kept b w w') : TkOp T S b g h w0 q' o w' := by
  have := i.hb
  have := i.hg
  have := i.hh
  exact ⟨r, (k.other g (by omega) (row_lt i.z)).trans i.z, (k.other h (by omega) (row_lt i.o)).trans i.o, i.kept.trans k, i.hb, i.hg, i.hh⟩
theorem TkOp.below {T S b g h : Nat} {w0 w w' : World} {q : St} {o : Ob} (i : TkOp T S b g h w0 q o w) (k : Below w.heap.size w w') : TkOp T S b g h w0 q o w' :=
  ⟨i.rd.of_heap (k.block _ i.rd.lt), kept_block i.z k, kept_block i.o k, i.kept.trans (Kept.of_below k i.rd.lt), i.hb, i.hg, i.hh⟩
theorem TkOp.set {T S b g h : Nat} {w0 w : World} {q : St} {o : Ob} (i : TkOp T S b g h w0 q o w) (j : Nat) (v : Value) (o' : Ob) (e : (w.setCell ⟨h, j, none⟩ v).heap[h]? = some (.cells o'.cs S (0, 0))) : TkOp T S b g h w0 q o' (w.setCell ⟨h, j, none⟩ v) := by
  have := i.hb
  have := i.hg
  have := i.hh
  exact ⟨i.rd.of_heap (Below.heap_setCell _ ⟨h, j, none⟩ v b (by show b ≠ h; omega)), (Below.heap_setCell _ ⟨h, j, none⟩ v g (by show g ≠ h; omega)).trans i.z, e, i.kept.setNew i.hb (by omega) _ _, i.hb, i.hg, i.hh⟩
theorem kept_setRow {b g : Nat} {w w' : World} (h : Kept b w w') (hb : b < w.heap.size) (hg : w.heap.size ≤ g) (cs : Array Value) : Kept b w (w'.setRow g cs) :=
  ⟨h.below.trans ⟨rfl, rfl, rfl, by simp, fun k hk => setRow_other _ _ _ _ (by omega)⟩, fun k hk hl => (setRow_other _ _ _ _ (by omega)).trans (h.other k hk hl)⟩
theorem TkOp.done {T S b g h : Nat} {w0 w : World} {q : St} {o : Ob} (i : TkOp T S b g h w0 q o w) (cs : Array Value) : Rd T b q (w.setRow g cs) ∧ Kept b w0 (w.setRow g cs) ∧ (w.setRow g cs).heap[g]? = some (.cells cs S (0, 0)) := by
  have := i.hb
  have := i.hg
  exact ⟨i.rd.of_heap (setRow_other _ _ _ _ (by omega)), kept_setRow i.kept i.hb (by omega) _, setRow_heap _ _ _ _ _ _ i.z⟩
theorem fail_0 (q : St) : q.fail 0 = q := by
  unfold St.fail
  split
  · rename_i h; cases q; dsimp only at h; rw [h]
  · rfl
end Go.Opn
namespace Go.Proofs.YtkbboddibgfjbaaGreatDoor
open Go.RowKit Go.Wire Go.Stamp Go.Opn
set_option maxRecDepth 100000 in
set_option maxHeartbeats 2000000 in
theorem take_0 (b : Nat) (q r1 r2 r3  : St) (kd : Nat) (t : Tm) (th : Nat) (w : World) (h : Rd 246 b q w) (hk : kd < 256) (k1 : kd ≠ 1) (k2 : kd ≠ 2) (k4 : kd ≠ 4)
    (HN1 : Hid (∀ w, Rd 246 b q w → Calls Tryz.prog 127 #[.pointer (some ⟨b, 0, none⟩), .int .i64 1] w fun e w' => e = .returned (.int .u64 kd) ∧ Rd 246 b r1 w' ∧ Kept b w w'))
    (HST : Hid (∀ w, Rd 246 b r1 w → Calls Tryz.prog 165 #[.pointer (some ⟨b, 0, none⟩)] w fun e w' => e = .returned t.v ∧ Rd 246 b r2 w' ∧ Kept b w w'))
    (HN8 : Hid (∀ w, Rd 246 b r2 w → Calls Tryz.prog 127 #[.pointer (some ⟨b, 0, none⟩), .int .i64 8] w fun e w' => e = .returned (.int .u64 th) ∧ Rd 246 b r3 w' ∧ Kept b w w'))
    (e0 : Int) (HC : Hid (∀ w, Calls Tryz.prog 101 #[(Ob.mk kd t th 0 ⟨#[]⟩ false ⟨#[]⟩ 0).v] w fun e w' => e = .returned (.int .i64 e0) ∧ Below w.heap.size w w')) :
    Calls Tryz.prog 129 #[.pointer (some ⟨b, 0, none⟩)] w fun e w' => e = .returned (if (r3.fail e0).err = 0 then Ob.mk kd t th 0 ⟨#[]⟩ false ⟨#[]⟩ 0 else Ob.zero).v ∧ Rd 246 b (r3.fail e0) w' ∧ Kept b w w' := by
  have hlt := h.lt
  have HA : Hid (∀ o, Rd 246 b q (w.alloc o)) := fun o => Rd.of_heap h (heap_alloc_old w o hlt)
  have HR : Hid (Rd 246 b q w) := h
  clear h hlt
  have hw : IntKind.i64.wrap (kd : Int) = kd := by simp [IntKind.wrap, IntKind.bits, IntKind.signed]; omega
  have e1 : ((kd : Int) == 1) = false := beq_eq_false_iff_ne.2 (by omega)
  have e2 : ((kd : Int) == 2) = false := beq_eq_false_iff_ne.2 (by omega)
  have e4 : ((kd : Int) == 4) = false := beq_eq_false_iff_ne.2 (by omega)
  clear k1 k2 k4 hk
  obtain ⟨c, k⟩ := t
  unfold Tm.v at HST
  unfold Ob.v at HC
  dsimp only at HST HC ⊢
  by_cases he : e0 = 0
  · subst he
    rw [fail_0]
    by_cases hr : r3.err = 0
    · rw [if_pos hr]
      unfold Ob.v
      dsimp only
      go_enter Tryz.func129, Tryz.ntmps129
      go_wp2_with (first
        | (go_at_call 101; have I : Hid (TkOp 246 58 b w.heap.size w3.heap.size w r3 (Ob.mk kd ⟨c, k⟩ th 0 ⟨#[]⟩ false ⟨#[]⟩ 0) (w3.alloc (.cells (Ob.mk kd ⟨c, k⟩ th 0 ⟨#[]⟩ false ⟨#[]⟩ 0).cs 58))) := TkOp.start HR.out k1 k2 k3 h3 (Ob.mk kd ⟨c, k⟩ th 0 ⟨#[]⟩ false ⟨#[]⟩ 0); refine (HC.out _).mono ?_; rintro e w4 ⟨rfl, k4⟩; replace I : Hid (TkOp 246 58 b w.heap.size w3.heap.size w r3 (Ob.mk kd ⟨c, k⟩ th 0 ⟨#[]⟩ false ⟨#[]⟩ 0) w4) := I.out.below k4; clear k4; obtain ⟨c0, c1, c2, c3, c4, c5, c6, c7, c8⟩ := cells9 I.out.o)
        | (go_at_call 169; refine (err_any b _ w4 I.out.rd).mono ?_; rintro e w4 ⟨rfl, rfl⟩)
        | (go_at_call 160; refine (fail_any b _ _ _ I.out.rd).mono ?_; rintro e w5 ⟨rfl, h5, k5⟩; replace I : Hid (TkOp 246 58 b w.heap.size w3.heap.size w (r3.fail e0) (Ob.mk kd ⟨c, k⟩ th 0 ⟨#[]⟩ false ⟨#[]⟩ 0) w5) := I.out.read h5 k5; clear h5 k5)
        | (go_at_call 169; refine (err_any b _ w5 I.out.rd).mono ?_; rintro e w5 ⟨rfl, rfl⟩)
        | (refine wpList_store_row rfl 58 _ _ rfl _ _ rfl rfl 58 _ I.out.z infoOp rfl (by simp [Value.oneCell']) ?_)
        | (go_at_call_of 127 (Value.int IntKind.i64 8); refine (HN8.out _ h2).mono ?_; rintro e w3 ⟨rfl, h3, k3⟩)
        | (go_at_call 165; refine (HST.out _ h1).mono ?_; rintro e w2 ⟨rfl, h2, k2⟩)
        | (go_at_call_of 127 (Value.int IntKind.i64 1); refine (HN1.out _ (HA.out _)).mono ?_; rintro e w1 ⟨rfl, h1, k1⟩))
      obtain ⟨d1, d2, d3⟩ := I.out.done (Ob.mk kd ⟨c, k⟩ th 0 ⟨#[]⟩ false ⟨#[]⟩ 0).cs
      exact bodyPost_ret (results_cell_row Tryz.results129 _ _ _ _ _ (0, 0) _ rfl d3 Tryz.underlying58 rfl infoOp) rfl ⟨rfl, d1, d2⟩
    · rw [if_neg hr]
      have g0 : (r3.err == 0) = false := beq_eq_false_iff_ne.2 hr
      clear hr
      unfold Ob.v Ob.zero
      dsimp only
      go_enter Tryz.func129, Tryz.ntmps129
      go_wp2_with (first
        | (go_at_call 101; have I : Hid (TkOp 246 58 b w.heap.size w3.heap.size w r3 (Ob.mk kd ⟨c, k⟩ th 0 ⟨#[]⟩ false ⟨#[]⟩ 0) (w3.alloc (.cells (Ob.mk kd ⟨c, k⟩ th 0 ⟨#[]⟩ false ⟨#[]⟩ 0).cs 58))) := TkOp.start HR.out k1 k2 k3 h3 (Ob.mk kd ⟨c, k⟩ th 0 ⟨#[]⟩ false ⟨#[]⟩ 0); refine (HC.out _).mono ?_; rintro e w4 ⟨rfl, k4⟩; replace I : Hid (TkOp 246 58 b w.heap.size w3.heap.size w r3 (Ob.mk kd ⟨c, k⟩ th 0 ⟨#[]⟩ false ⟨#[]⟩ 0) w4) := I.out.below k4; clear k4; obtain ⟨c0, c1, c2, c3, c4, c5, c6, c7, c8⟩ := cells9 I.out.o)
        | (go_at_call 169; refine (err_any b _ w4 I.out.rd).mono ?_; rintro e w4 ⟨rfl, rfl⟩)
        | (go_at_call 160; refine (fail_any b _ _ _ I.out.rd).mono ?_; rintro e w5 ⟨rfl, h5, k5⟩; replace I : Hid (TkOp 246 58 b w.heap.size w3.heap.size w (r3.fail e0) (Ob.mk kd ⟨c, k⟩ th 0 ⟨#[]⟩ false ⟨#[]⟩ 0) w5) := I.out.read h5 k5; clear h5 k5)
        | (go_at_call 169; refine (err_any b _ w5 I.out.rd).mono ?_; rintro e w5 ⟨rfl, rfl⟩)
        | (refine wpList_store_row rfl 58 _ _ rfl _ _ rfl rfl 58 _ I.out.z infoOp rfl (by simp [Value.oneCell']) ?_)
        | (go_at_call_of 127 (Value.int IntKind.i64 8); refine (HN8.out _ h2).mono ?_; rintro e w3 ⟨rfl, h3, k3⟩)
        | (go_at_call 165; refine (HST.out _ h1).mono ?_; rintro e w2 ⟨rfl, h2, k2⟩)
        | (go_at_call_of 127 (Value.int IntKind.i64 1); refine (HN1.out _ (HA.out _)).mono ?_; rintro e w1 ⟨rfl, h1, k1⟩))
      obtain ⟨d1, d2, d3⟩ := I.out.done (Ob.zero).cs
      exact bodyPost_ret (results_cell_row Tryz.results129 _ _ _ _ _ (0, 0) _ rfl d3 Tryz.underlying58 rfl infoOp) rfl ⟨rfl, d1, d2⟩
  · have hr := r3.fail_ne e0 he
    rw [if_neg hr]
    have g0 : ((r3.fail e0).err == 0) = false := beq_eq_false_iff_ne.2 hr
    have g1 : (e0 == 0) = false := beq_eq_false_iff_ne.2 he
    clear hr he
    unfold Ob.v Ob.zero
    dsimp only
    go_enter Tryz.func129, Tryz.ntmps129
    go_wp2_with (first
      | (go_at_call 101; have I : Hid (TkOp 246 58 b w.heap.size w3.heap.size w r3 (Ob.mk kd ⟨c, k⟩ th 0 ⟨#[]⟩ false ⟨#[]⟩ 0) (w3.alloc (.cells (Ob.mk kd ⟨c, k⟩ th 0 ⟨#[]⟩ false ⟨#[]⟩ 0).cs 58))) := TkOp.start HR.out k1 k2 k3 h3 (Ob.mk kd ⟨c, k⟩ th 0 ⟨#[]⟩ false ⟨#[]⟩ 0); refine (HC.out _).mono ?_; rintro e w4 ⟨rfl, k4⟩; replace I : Hid (TkOp 246 58 b w.heap.size w3.heap.size w r3 (Ob.mk kd ⟨c, k⟩ th 0 ⟨#[]⟩ false ⟨#[]⟩ 0) w4) := I.out.below k4; clear k4; obtain ⟨c0, c1, c2, c3, c4, c5, c6, c7, c8⟩ := cells9 I.out.o)
      | (go_at_call 169; refine (err_any b _ w4 I.out.rd).mono ?_; rintro e w4 ⟨rfl, rfl⟩)
      | (go_at_call 160; refine (fail_any b _ _ _ I.out.rd).mono ?_; rintro e w5 ⟨rfl, h5, k5⟩; replace I : Hid (TkOp 246 58 b w.heap.size w3.heap.size w (r3.fail e0) (Ob.mk kd ⟨c, k⟩ th 0 ⟨#[]⟩ false ⟨#[]⟩ 0) w5) := I.out.read h5 k5; clear h5 k5)
      | (go_at_call 169; refine (err_any b _ w5 I.out.rd).mono ?_; rintro e w5 ⟨rfl, rfl⟩)
      | (refine wpList_store_row rfl 58 _ _ rfl _ _ rfl rfl 58 _ I.out.z infoOp rfl (by simp [Value.oneCell']) ?_)
      | (go_at_call_of 127 (Value.int IntKind.i64 8); refine (HN8.out _ h2).mono ?_; rintro e w3 ⟨rfl, h3, k3⟩)
      | (go_at_call 165; refine (HST.out _ h1).mono ?_; rintro e w2 ⟨rfl, h2, k2⟩)
      | (go_at_call_of 127 (Value.int IntKind.i64 1); refine (HN1.out _ (HA.out _)).mono ?_; rintro e w1 ⟨rfl, h1, k1⟩))
    obtain ⟨d1, d2, d3⟩ := I.out.done (Ob.zero).cs
    exact bodyPost_ret (results_cell_row Tryz.results129 _ _ _ _ _ (0, 0) _ rfl d3 Tryz.underlying58 rfl infoOp) rfl ⟨rfl, d1, d2⟩
set_option maxRecDepth 100000 in
set_option maxHeartbeats 2000000 in
theorem take_1 (b : Nat) (q r1 r2 r3 r4 r5 r6 : St) (d : Bool) (p : Nat) (n : ByteArray) (t : Tm) (th : Nat) (w : World) (h : Rd 246 b q w)
    (HN1 : Hid (∀ w, Rd 246 b q w → Calls Tryz.prog 127 #[.pointer (some ⟨b, 0, none⟩), .int .i64 1] w fun e w' => e = .returned (.int .u64 1) ∧ Rd 246 b r1 w' ∧ Kept b w w'))
    (HST : Hid (∀ w, Rd 246 b r1 w → Calls Tryz.prog 165 #[.pointer (some ⟨b, 0, none⟩)] w fun e w' => e = .returned t.v ∧ Rd 246 b r2 w' ∧ Kept b w w'))
    (HN8 : Hid (∀ w, Rd 246 b r2 w → Calls Tryz.prog 127 #[.pointer (some ⟨b, 0, none⟩), .int .i64 8] w fun e w' => e = .returned (.int .u64 th) ∧ Rd 246 b r3 w' ∧ Kept b w w'))
    (HBo : Hid (∀ w, Rd 246 b r3 w → Calls Tryz.prog 166 #[.pointer (some ⟨b, 0, none⟩)] w fun e w' => e = .returned (.bool d) ∧ Rd 246 b r4 w' ∧ Kept b w w'))
    (HP8 : Hid (∀ w, Rd 246 b r4 w → Calls Tryz.prog 127 #[.pointer (some ⟨b, 0, none⟩), .int .i64 8] w fun e w' => e = .returned (.int .u64 p) ∧ Rd 246 b r5 w' ∧ Kept b w w'))
    (HTx : Hid (∀ w, Rd 246 b r5 w → Calls Tryz.prog 167 #[.pointer (some ⟨b, 0, none⟩), .int .i64 32] w fun e w' => e = .returned (.string n) ∧ Rd 246 b r6 w' ∧ Kept b w w'))
    (e0 : Int) (HC : Hid (∀ w, Calls Tryz.prog 101 #[(Ob.mk 1 t th p n d ⟨#[]⟩ 0).v] w fun e w' => e = .returned (.int .i64 e0) ∧ Below w.heap.size w w')) :
    Calls Tryz.prog 129 #[.pointer (some ⟨b, 0, none⟩)] w fun e w' => e = .returned (if (r6.fail e0).err = 0 then Ob.mk 1 t th p n d ⟨#[]⟩ 0 else Ob.zero).v ∧ Rd 246 b (r6.fail e0) w' ∧ Kept b w w' := by
  have hlt := h.lt
  have HA : Hid (∀ o, Rd 246 b q (w.alloc o)) := fun o => Rd.of_heap h (heap_alloc_old w o hlt)
  have HR : Hid (Rd 246 b q w) := h
  clear h hlt
  obtain ⟨c, k⟩ := t
  unfold Tm.v at HST
  unfold Ob.v at HC
  dsimp only at HST HC ⊢
  by_cases he : e0 = 0
  · subst he
    rw [fail_0]
    by_cases hr : r6.err = 0
    · rw [if_pos hr]
      unfold Ob.v
      dsimp only
      go_enter Tryz.func129, Tryz.ntmps129
      go_wp2_with (first
        | (go_at_call 166; have I : Hid (TkOp 246 58 b w.heap.size w3.heap.size w r3 (Ob.mk 1 ⟨c, k⟩ th 0 ⟨#[]⟩ false ⟨#[]⟩ 0) (w3.alloc (.cells (Ob.mk 1 ⟨c, k⟩ th 0 ⟨#[]⟩ false ⟨#[]⟩ 0).cs 58))) := TkOp.start HR.out k1 k2 k3 h3 (Ob.mk 1 ⟨c, k⟩ th 0 ⟨#[]⟩ false ⟨#[]⟩ 0); refine (HBo.out _ I.out.rd).mono ?_; rintro e w4 ⟨rfl, h4, k4⟩; replace I : Hid (TkOp 246 58 b w.heap.size w3.heap.size w r4 (Ob.mk 1 ⟨c, k⟩ th 0 ⟨#[]⟩ false ⟨#[]⟩ 0) w4) := I.out.read h4 k4; clear h4 k4; obtain ⟨c0, c1, c2, c3, c4, c5, c6, c7, c8⟩ := cells9 I.out.o; have f6 := frozen9 I.out.o 6)
        | (go_at_call_of 127 (Value.int IntKind.i64 8); replace I : Hid (TkOp 246 58 b w.heap.size w3.heap.size w r4 (Ob.mk 1 ⟨c, k⟩ th 0 ⟨#[]⟩ d ⟨#[]⟩ 0) (w4.setCell ⟨w3.heap.size, 6, none⟩ (.bool d))) := I.out.set 6 (.bool d) (Ob.mk 1 ⟨c, k⟩ th 0 ⟨#[]⟩ d ⟨#[]⟩ 0) (by rw [heap_setCell_same _ _ _ _ _ _ I.out.o]; rfl); clear c0 c1 c2 c3 c4 c5 c6 c7 c8; clear f6; refine (HP8.out _ I.out.rd).mono ?_; rintro e w5 ⟨rfl, h5, k5⟩; replace I : Hid (TkOp 246 58 b w.heap.size w3.heap.size w r5 (Ob.mk 1 ⟨c, k⟩ th 0 ⟨#[]⟩ d ⟨#[]⟩ 0) w5) := I.out.read h5 k5; clear h5 k5; obtain ⟨c0, c1, c2, c3, c4, c5, c6, c7, c8⟩ := cells9 I.out.o; have f4 := frozen9 I.out.o 4)
        | (go_at_call 167; replace I : Hid (TkOp 246 58 b w.heap.size w3.heap.size w r5 (Ob.mk 1 ⟨c, k⟩ th p ⟨#[]⟩ d ⟨#[]⟩ 0) (w5.setCell ⟨w3.heap.size, 4, none⟩ (.int .u64 p))) := I.out.set 4 (.int .u64 p) (Ob.mk 1 ⟨c, k⟩ th p ⟨#[]⟩ d ⟨#[]⟩ 0) (by rw [heap_setCell_same _ _ _ _ _ _ I.out.o]; rfl); clear c0 c1 c2 c3 c4 c5 c6 c7 c8; clear f4; refine (HTx.out _ I.out.rd).mono ?_; rintro e w6 ⟨rfl, h6, k6⟩; replace I : Hid (TkOp 246 58 b w.heap.size w3.heap.size w r6 (Ob.mk 1 ⟨c, k⟩ th p ⟨#[]⟩ d ⟨#[]⟩ 0) w6) := I.out.read h6 k6; clear h6 k6; obtain ⟨c0, c1, c2, c3, c4, c5, c6, c7, c8⟩ := cells9 I.out.o; have f5 := frozen9 I.out.o 5)
        | (go_at_call 101; replace I : Hid (TkOp 246 58 b w.heap.size w3.heap.size w r6 (Ob.mk 1 ⟨c, k⟩ th p n d ⟨#[]⟩ 0) (w6.setCell ⟨w3.heap.size, 5, none⟩ (.string n))) := I.out.set 5 (.string n) (Ob.mk 1 ⟨c, k⟩ th p n d ⟨#[]⟩ 0) (by rw [heap_setCell_same _ _ _ _ _ _ I.out.o]; rfl); clear c0 c1 c2 c3 c4 c5 c6 c7 c8; clear f5; refine (HC.out _).mono ?_; rintro e w7 ⟨rfl, k7⟩; replace I : Hid (TkOp 246 58 b w.heap.size w3.heap.size w r6 (Ob.mk 1 ⟨c, k⟩ th p n d ⟨#[]⟩ 0) w7) := I.out.below k7; clear k7; obtain ⟨c0, c1, c2, c3, c4, c5, c6, c7, c8⟩ := cells9 I.out.o)
        | (go_at_call 169; refine (err_any b _ w7 I.out.rd).mono ?_; rintro e w7 ⟨rfl, rfl⟩)
        | (go_at_call 160; refine (fail_any b _ _ _ I.out.rd).mono ?_; rintro e w8 ⟨rfl, h8, k8⟩; replace I : Hid (TkOp 246 58 b w.heap.size w3.heap.size w (r6.fail e0) (Ob.mk 1 ⟨c, k⟩ th p n d ⟨#[]⟩ 0) w8) := I.out.read h8 k8; clear h8 k8)
        | (go_at_call 169; refine (err_any b _ w8 I.out.rd).mono ?_; rintro e w8 ⟨rfl, rfl⟩)
        | (refine wpList_store_row rfl 58 _ _ rfl _ _ rfl rfl 58 _ I.out.z infoOp rfl (by simp [Value.oneCell']) ?_)
        | (go_at_call_of 127 (Value.int IntKind.i64 8); refine (HN8.out _ h2).mono ?_; rintro e w3 ⟨rfl, h3, k3⟩)
        | (go_at_call 165; refine (HST.out _ h1).mono ?_; rintro e w2 ⟨rfl, h2, k2⟩)
        | (go_at_call_of 127 (Value.int IntKind.i64 1); refine (HN1.out _ (HA.out _)).mono ?_; rintro e w1 ⟨rfl, h1, k1⟩))
      obtain ⟨d1, d2, d3⟩ := I.out.done (Ob.mk 1 ⟨c, k⟩ th p n d ⟨#[]⟩ 0).cs
      exact bodyPost_ret (results_cell_row Tryz.results129 _ _ _ _ _ (0, 0) _ rfl d3 Tryz.underlying58 rfl infoOp) rfl ⟨rfl, d1, d2⟩
    · rw [if_neg hr]
      have g0 : (r6.err == 0) = false := beq_eq_false_iff_ne.2 hr
      clear hr
      unfold Ob.v Ob.zero
      dsimp only
      go_enter Tryz.func129, Tryz.ntmps129
      go_wp2_with (first
        | (go_at_call 166; have I : Hid (TkOp 246 58 b w.heap.size w3.heap.size w r3 (Ob.mk 1 ⟨c, k⟩ th 0 ⟨#[]⟩ false ⟨#[]⟩ 0) (w3.alloc (.cells (Ob.mk 1 ⟨c, k⟩ th 0 ⟨#[]⟩ false ⟨#[]⟩ 0).cs 58))) := TkOp.start HR.out k1 k2 k3 h3 (Ob.mk 1 ⟨c, k⟩ th 0 ⟨#[]⟩ false ⟨#[]⟩ 0); refine (HBo.out _ I.out.rd).mono ?_; rintro e w4 ⟨rfl, h4, k4⟩; replace I : Hid (TkOp 246 58 b w.heap.size w3.heap.size w r4 (Ob.mk 1 ⟨c, k⟩ th 0 ⟨#[]⟩ false ⟨#[]⟩ 0) w4) := I.out.read h4 k4; clear h4 k4; obtain ⟨c0, c1, c2, c3, c4, c5, c6, c7, c8⟩ := cells9 I.out.o; have f6 := frozen9 I.out.o 6)
        | (go_at_call_of 127 (Value.int IntKind.i64 8); replace I : Hid (TkOp 246 58 b w.heap.size w3.heap.size w r4 (Ob.mk 1 ⟨c, k⟩ th 0 ⟨#[]⟩ d ⟨#[]⟩ 0) (w4.setCell ⟨w3.heap.size, 6, none⟩ (.bool d))) := I.out.set 6 (.bool d) (Ob.mk 1 ⟨c, k⟩ th 0 ⟨#[]⟩ d ⟨#[]⟩ 0) (by rw [heap_setCell_same _ _ _ _ _ _ I.out.o]; rfl); clear c0 c1 c2 c3 c4 c5 c6 c7 c8; clear f6; refine (HP8.out _ I.out.rd).mono ?_; rintro e w5 ⟨rfl, h5, k5⟩; replace I : Hid (TkOp 246 58 b w.heap.size w3.heap.size w r5 (Ob.mk 1 ⟨c, k⟩ th 0 ⟨#[]⟩ d ⟨#[]⟩ 0) w5) := I.out.read h5 k5; clear h5 k5; obtain ⟨c0, c1, c2, c3, c4, c5, c6, c7, c8⟩ := cells9 I.out.o; have f4 := frozen9 I.out.o 4)
        | (go_at_call 167; replace I : Hid (TkOp 246 58 b w.heap.size w3.heap.size w r5 (Ob.mk 1 ⟨c, k⟩ th p ⟨#[]⟩ d ⟨#[]⟩ 0) (w5.setCell ⟨w3.heap.size, 4, none⟩ (.int .u64 p))) := I.out.set 4 (.int .u64 p) (Ob.mk 1 ⟨c, k⟩ th p ⟨#[]⟩ d ⟨#[]⟩ 0) (by rw [heap_setCell_same _ _ _ _ _ _ I.out.o]; rfl); clear c0 c1 c2 c3 c4 c5 c6 c7 c8; clear f4; refine (HTx.out _ I.out.rd).mono ?_; rintro e w6 ⟨rfl, h6, k6⟩; replace I : Hid (TkOp 246 58 b w.heap.size w3.heap.size w r6 (Ob.mk 1 ⟨c, k⟩ th p ⟨#[]⟩ d ⟨#[]⟩ 0) w6) := I.out.read h6 k6; clear h6 k6; obtain ⟨c0, c1, c2, c3, c4, c5, c6, c7, c8⟩ := cells9 I.out.o; have f5 := frozen9 I.out.o 5)
        | (go_at_call 101; replace I : Hid (TkOp 246 58 b w.heap.size w3.heap.size w r6 (Ob.mk 1 ⟨c, k⟩ th p n d ⟨#[]⟩ 0) (w6.setCell ⟨w3.heap.size, 5, none⟩ (.string n))) := I.out.set 5 (.string n) (Ob.mk 1 ⟨c, k⟩ th p n d ⟨#[]⟩ 0) (by rw [heap_setCell_same _ _ _ _ _ _ I.out.o]; rfl); clear c0 c1 c2 c3 c4 c5 c6 c7 c8; clear f5; refine (HC.out _).mono ?_; rintro e w7 ⟨rfl, k7⟩; replace I : Hid (TkOp 246 58 b w.heap.size w3.heap.size w r6 (Ob.mk 1 ⟨c, k⟩ th p n d ⟨#[]⟩ 0) w7) := I.out.below k7; clear k7; obtain ⟨c0, c1, c2, c3, c4, c5, c6, c7, c8⟩ := cells9 I.out.o)
        | (go_at_call 169; refine (err_any b _ w7 I.out.rd).mono ?_; rintro e w7 ⟨rfl, rfl⟩)
        | (go_at_call 160; refine (fail_any b _ _ _ I.out.rd).mono ?_; rintro e w8 ⟨rfl, h8, k8⟩; replace I : Hid (TkOp 246 58 b w.heap.size w3.heap.size w (r6.fail e0) (Ob.mk 1 ⟨c, k⟩ th p n d ⟨#[]⟩ 0) w8) := I.out.read h8 k8; clear h8 k8)
        | (go_at_call 169; refine (err_any b _ w8 I.out.rd).mono ?_; rintro e w8 ⟨rfl, rfl⟩)
        | (refine wpList_store_row rfl 58 _ _ rfl _ _ rfl rfl 58 _ I.out.z infoOp rfl (by simp [Value.oneCell']) ?_)
        | (go_at_call_of 127 (Value.int IntKind.i64 8); refine (HN8.out _ h2).mono ?_; rintro e w3 ⟨rfl, h3, k3⟩)
        | (go_at_call 165; refine (HST.out _ h1).mono ?_; rintro e w2 ⟨rfl, h2, k2⟩)
        | (go_at_call_of 127 (Value.int IntKind.i64 1); refine (HN1.out _ (HA.out _)).mono ?_; rintro e w1 ⟨rfl, h1, k1⟩))
      obtain ⟨d1, d2, d3⟩ := I.out.done (Ob.zero).cs
      exact bodyPost_ret (results_cell_row Tryz.results129 _ _ _ _ _ (0, 0) _ rfl d3 Tryz.underlying58 rfl infoOp) rfl ⟨rfl, d1, d2⟩
  · have hr := r6.fail_ne e0 he
    rw [if_neg hr]
    have g0 : ((r6.fail e0).err == 0) = false := beq_eq_false_iff_ne.2 hr
    have g1 : (e0 == 0) = false := beq_eq_false_iff_ne.2 he
    clear hr he
    unfold Ob.v Ob.zero
    dsimp only
    go_enter Tryz.func129, Tryz.ntmps129
    go_wp2_with (first
      | (go_at_call 166; have I : Hid (TkOp 246 58 b w.heap.size w3.heap.size w r3 (Ob.mk 1 ⟨c, k⟩ th 0 ⟨#[]⟩ false ⟨#[]⟩ 0) (w3.alloc (.cells (Ob.mk 1 ⟨c, k⟩ th 0 ⟨#[]⟩ false ⟨#[]⟩ 0).cs 58))) := TkOp.start HR.out k1 k2 k3 h3 (Ob.mk 1 ⟨c, k⟩ th 0 ⟨#[]⟩ false ⟨#[]⟩ 0); refine (HBo.out _ I.out.rd).mono ?_; rintro e w4 ⟨rfl, h4, k4⟩; replace I : Hid (TkOp 246 58 b w.heap.size w3.heap.size w r4 (Ob.mk 1 ⟨c, k⟩ th 0 ⟨#[]⟩ false ⟨#[]⟩ 0) w4) := I.out.read h4 k4; clear h4 k4; obtain ⟨c0, c1, c2, c3, c4, c5, c6, c7, c8⟩ := cells9 I.out.o; have f6 := frozen9 I.out.o 6)
      | (go_at_call_of 127 (Value.int IntKind.i64 8); replace I : Hid (TkOp 246 58 b w.heap.size w3.heap.size w r4 (Ob.mk 1 ⟨c, k⟩ th 0 ⟨#[]⟩ d ⟨#[]⟩ 0) (w4.setCell ⟨w3.heap.size, 6, none⟩ (.bool d))) := I.out.set 6 (.bool d) (Ob.mk 1 ⟨c, k⟩ th 0 ⟨#[]⟩ d ⟨#[]⟩ 0) (by rw [heap_setCell_same _ _ _ _ _ _ I.out.o]; rfl); clear c0 c1 c2 c3 c4 c5 c6 c7 c8; clear f6; refine (HP8.out _ I.out.rd).mono ?_; rintro e w5 ⟨rfl, h5, k5⟩; replace I : Hid (TkOp 246 58 b w.heap.size w3.heap.size w r5 (Ob.mk 1 ⟨c, k⟩ th 0 ⟨#[]⟩ d ⟨#[]⟩ 0) w5) := I.out.read h5 k5; clear h5 k5; obtain ⟨c0, c1, c2, c3, c4, c5, c6, c7, c8⟩ := cells9 I.out.o; have f4 := frozen9 I.out.o 4)
      | (go_at_call 167; replace I : Hid (TkOp 246 58 b w.heap.size w3.heap.size w r5 (Ob.mk 1 ⟨c, k⟩ th p ⟨#[]⟩ d ⟨#[]⟩ 0) (w5.setCell ⟨w3.heap.size, 4, none⟩ (.int .u64 p))) := I.out.set 4 (.int .u64 p) (Ob.mk 1 ⟨c, k⟩ th p ⟨#[]⟩ d ⟨#[]⟩ 0) (by rw [heap_setCell_same _ _ _ _ _ _ I.out.o]; rfl); clear c0 c1 c2 c3 c4 c5 c6 c7 c8; clear f4; refine (HTx.out _ I.out.rd).mono ?_; rintro e w6 ⟨rfl, h6, k6⟩; replace I : Hid (TkOp 246 58 b w.heap.size w3.heap.size w r6 (Ob.mk 1 ⟨c, k⟩ th p ⟨#[]⟩ d ⟨#[]⟩ 0) w6) := I.out.read h6 k6; clear h6 k6; obtain ⟨c0, c1, c2, c3, c4, c5, c6, c7, c8⟩ := cells9 I.out.o; have f5 := frozen9 I.out.o 5)
      | (go_at_call 101; replace I : Hid (TkOp 246 58 b w.heap.size w3.heap.size w r6 (Ob.mk 1 ⟨c, k⟩ th p n d ⟨#[]⟩ 0) (w6.setCell ⟨w3.heap.size, 5, none⟩ (.string n))) := I.out.set 5 (.string n) (Ob.mk 1 ⟨c, k⟩ th p n d ⟨#[]⟩ 0) (by rw [heap_setCell_same _ _ _ _ _ _ I.out.o]; rfl); clear c0 c1 c2 c3 c4 c5 c6 c7 c8; clear f5; refine (HC.out _).mono ?_; rintro e w7 ⟨rfl, k7⟩; replace I : Hid (TkOp 246 58 b w.heap.size w3.heap.size w r6 (Ob.mk 1 ⟨c, k⟩ th p n d ⟨#[]⟩ 0) w7) := I.out.below k7; clear k7; obtain ⟨c0, c1, c2, c3, c4, c5, c6, c7, c8⟩ := cells9 I.out.o)
      | (go_at_call 169; refine (err_any b _ w7 I.out.rd).mono ?_; rintro e w7 ⟨rfl, rfl⟩)
      | (go_at_call 160; refine (fail_any b _ _ _ I.out.rd).mono ?_; rintro e w8 ⟨rfl, h8, k8⟩; replace I : Hid (TkOp 246 58 b w.heap.size w3.heap.size w (r6.fail e0) (Ob.mk 1 ⟨c, k⟩ th p n d ⟨#[]⟩ 0) w8) := I.out.read h8 k8; clear h8 k8)
      | (go_at_call 169; refine (err_any b _ w8 I.out.rd).mono ?_; rintro e w8 ⟨rfl, rfl⟩)
      | (refine wpList_store_row rfl 58 _ _ rfl _ _ rfl rfl 58 _ I.out.z infoOp rfl (by simp [Value.oneCell']) ?_)
      | (go_at_call_of 127 (Value.int IntKind.i64 8); refine (HN8.out _ h2).mono ?_; rintro e w3 ⟨rfl, h3, k3⟩)
      | (go_at_call 165; refine (HST.out _ h1).mono ?_; rintro e w2 ⟨rfl, h2, k2⟩)
      | (go_at_call_of 127 (Value.int IntKind.i64 1); refine (HN1.out _ (HA.out _)).mono ?_; rintro e w1 ⟨rfl, h1, k1⟩))
    obtain ⟨d1, d2, d3⟩ := I.out.done (Ob.zero).cs
    exact bodyPost_ret (results_cell_row Tryz.results129 _ _ _ _ _ (0, 0) _ rfl d3 Tryz.underlying58 rfl infoOp) rfl ⟨rfl, d1, d2⟩
set_option maxRecDepth 100000 in
set_option maxHeartbeats 2000000 in
theorem take_2 (b : Nat) (q r1 r2 r3 r5 r6 : St) (p : Nat) (n : ByteArray) (t : Tm) (th : Nat) (w : World) (h : Rd 246 b q w)
    (HN1 : Hid (∀ w, Rd 246 b q w → Calls Tryz.prog 127 #[.pointer (some ⟨b, 0, none⟩), .int .i64 1] w fun e w' => e = .returned (.int .u64 2) ∧ Rd 246 b r1 w' ∧ Kept b w w'))
    (HST : Hid (∀ w, Rd 246 b r1 w → Calls Tryz.prog 165 #[.pointer (some ⟨b, 0, none⟩)] w fun e w' => e = .returned t.v ∧ Rd 246 b r2 w' ∧ Kept b w w'))
    (HN8 : Hid (∀ w, Rd 246 b r2 w → Calls Tryz.prog 127 #[.pointer (some ⟨b, 0, none⟩), .int .i64 8] w fun e w' => e = .returned (.int .u64 th) ∧ Rd 246 b r3 w' ∧ Kept b w w'))
    (HP8 : Hid (∀ w, Rd 246 b r3 w → Calls Tryz.prog 127 #[.pointer (some ⟨b, 0, none⟩), .int .i64 8] w fun e w' => e = .returned (.int .u64 p) ∧ Rd 246 b r5 w' ∧ Kept b w w'))
    (HTx : Hid (∀ w, Rd 246 b r5 w → Calls Tryz.prog 167 #[.pointer (some ⟨b, 0, none⟩), .int .i64 32] w fun e w' => e = .returned (.string n) ∧ Rd 246 b r6 w' ∧ Kept b w w'))
    (e0 : Int) (HC : Hid (∀ w, Calls Tryz.prog 101 #[(Ob.mk 2 t th p n false ⟨#[]⟩ 0).v] w fun e w' => e = .returned (.int .i64 e0) ∧ Below w.heap.size w w')) :
    Calls Tryz.prog 129 #[.pointer (some ⟨b, 0, none⟩)] w fun e w' => e = .returned (if (r6.fail e0).err = 0 then Ob.mk 2 t th p n false ⟨#[]⟩ 0 else Ob.zero).v ∧ Rd 246 b (r6.fail e0) w' ∧ Kept b w w' := by
  have hlt := h.lt
  have HA : Hid (∀ o, Rd 246 b q (w.alloc o)) := fun o => Rd.of_heap h (heap_alloc_old w o hlt)
  have HR : Hid (Rd 246 b q w) := h
  clear h hlt
  obtain ⟨c, k⟩ := t
  unfold Tm.v at HST
  unfold Ob.v at HC
  dsimp only at HST HC ⊢
  by_cases he : e0 = 0
  · subst he
    rw [fail_0]
    by_cases hr : r6.err = 0
    · rw [if_pos hr]
      unfold Ob.v
      dsimp only
      go_enter Tryz.func129, Tryz.ntmps129
      go_wp2_with (first
        | (go_at_call_of 127 (Value.int IntKind.i64 8); have I : Hid (TkOp 246 58 b w.heap.size w3.heap.size w r3 (Ob.mk 2 ⟨c, k⟩ th 0 ⟨#[]⟩ false ⟨#[]⟩ 0) (w3.alloc (.cells (Ob.mk 2 ⟨c, k⟩ th 0 ⟨#[]⟩ false ⟨#[]⟩ 0).cs 58))) := TkOp.start HR.out k1 k2 k3 h3 (Ob.mk 2 ⟨c, k⟩ th 0 ⟨#[]⟩ false ⟨#[]⟩ 0); refine (HP8.out _ I.out.rd).mono ?_; rintro e w4 ⟨rfl, h4, k4⟩; replace I : Hid (TkOp 246 58 b w.heap.size w3.heap.size w r5 (Ob.mk 2 ⟨c, k⟩ th 0 ⟨#[]⟩ false ⟨#[]⟩ 0) w4) := I.out.read h4 k4; clear h4 k4; obtain ⟨c0, c1, c2, c3, c4, c5, c6, c7, c8⟩ := cells9 I.out.o; have f4 := frozen9 I.out.o 4)
        | (go_at_call 167; replace I : Hid (TkOp 246 58 b w.heap.size w3.heap.size w r5 (Ob.mk 2 ⟨c, k⟩ th p ⟨#[]⟩ false ⟨#[]⟩ 0) (w4.setCell ⟨w3.heap.size, 4, none⟩ (.int .u64 p))) := I.out.set 4 (.int .u64 p) (Ob.mk 2 ⟨c, k⟩ th p ⟨#[]⟩ false ⟨#[]⟩ 0) (by rw [heap_setCell_same _ _ _ _ _ _ I.out.o]; rfl); clear c0 c1 c2 c3 c4 c5 c6 c7 c8; clear f4; refine (HTx.out _ I.out.rd).mono ?_; rintro e w5 ⟨rfl, h5, k5⟩; replace I : Hid (TkOp 246 58 b w.heap.size w3.heap.size w r6 (Ob.mk 2 ⟨c, k⟩ th p ⟨#[]⟩ false ⟨#[]⟩ 0) w5) := I.out.read h5 k5; clear h5 k5; obtain ⟨c0, c1, c2, c3, c4, c5, c6, c7, c8⟩ := cells9 I.out.o; have f5 := frozen9 I.out.o 5)
        | (go_at_call 101; replace I : Hid (TkOp 246 58 b w.heap.size w3.heap.size w r6 (Ob.mk 2 ⟨c, k⟩ th p n false ⟨#[]⟩ 0) (w5.setCell ⟨w3.heap.size, 5, none⟩ (.string n))) := I.out.set 5 (.string n) (Ob.mk 2 ⟨c, k⟩ th p n false ⟨#[]⟩ 0) (by rw [heap_setCell_same _ _ _ _ _ _ I.out.o]; rfl); clear c0 c1 c2 c3 c4 c5 c6 c7 c8; clear f5; refine (HC.out _).mono ?_; rintro e w6 ⟨rfl, k6⟩; replace I : Hid (TkOp 246 58 b w.heap.size w3.heap.size w r6 (Ob.mk 2 ⟨c, k⟩ th p n false ⟨#[]⟩ 0) w6) := I.out.below k6; clear k6; obtain ⟨c0, c1, c2, c3, c4, c5, c6, c7, c8⟩ := cells9 I.out.o)
        | (go_at_call 169; refine (err_any b _ w6 I.out.rd).mono ?_; rintro e w6 ⟨rfl, rfl⟩)
        | (go_at_call 160; refine (fail_any b _ _ _ I.out.rd).mono ?_; rintro e w7 ⟨rfl, h7, k7⟩; replace I : Hid (TkOp 246 58 b w.heap.size w3.heap.size w (r6.fail e0) (Ob.mk 2 ⟨c, k⟩ th p n false ⟨#[]⟩ 0) w7) := I.out.read h7 k7; clear h7 k7)
        | (go_at_call 169; refine (err_any b _ w7 I.out.rd).mono ?_; rintro e w7 ⟨rfl, rfl⟩)
        | (refine wpList_store_row rfl 58 _ _ rfl _ _ rfl rfl 58 _ I.out.z infoOp rfl (by simp [Value.oneCell']) ?_)
        | (go_at_call_of 127 (Value.int IntKind.i64 8); refine (HN8.out _ h2).mono ?_; rintro e w3 ⟨rfl, h3, k3⟩)
        | (go_at_call 165; refine (HST.out _ h1).mono ?_; rintro e w2 ⟨rfl, h2, k2⟩)
        | (go_at_call_of 127 (Value.int IntKind.i64 1); refine (HN1.out _ (HA.out _)).mono ?_; rintro e w1 ⟨rfl, h1, k1⟩))
      obtain ⟨d1, d2, d3⟩ := I.out.done (Ob.mk 2 ⟨c, k⟩ th p n false ⟨#[]⟩ 0).cs
      exact bodyPost_ret (results_cell_row Tryz.results129 _ _ _ _ _ (0, 0) _ rfl d3 Tryz.underlying58 rfl infoOp) rfl ⟨rfl, d1, d2⟩
    · rw [if_neg hr]
      have g0 : (r6.err == 0) = false := beq_eq_false_iff_ne.2 hr
      clear hr
      unfold Ob.v Ob.zero
      dsimp only
      go_enter Tryz.func129, Tryz.ntmps129
      go_wp2_with (first
        | (go_at_call_of 127 (Value.int IntKind.i64 8); have I : Hid (TkOp 246 58 b w.heap.size w3.heap.size w r3 (Ob.mk 2 ⟨c, k⟩ th 0 ⟨#[]⟩ false ⟨#[]⟩ 0) (w3.alloc (.cells (Ob.mk 2 ⟨c, k⟩ th 0 ⟨#[]⟩ false ⟨#[]⟩ 0).cs 58))) := TkOp.start HR.out k1 k2 k3 h3 (Ob.mk 2 ⟨c, k⟩ th 0 ⟨#[]⟩ false ⟨#[]⟩ 0); refine (HP8.out _ I.out.rd).mono ?_; rintro e w4 ⟨rfl, h4, k4⟩; replace I : Hid (TkOp 246 58 b w.heap.size w3.heap.size w r5 (Ob.mk 2 ⟨c, k⟩ th 0 ⟨#[]⟩ false ⟨#[]⟩ 0) w4) := I.out.read h4 k4; clear h4 k4; obtain ⟨c0, c1, c2, c3, c4, c5, c6, c7, c8⟩ := cells9 I.out.o; have f4 := frozen9 I.out.o 4)
        | (go_at_call 167; replace I : Hid (TkOp 246 58 b w.heap.size w3.heap.size w r5 (Ob.mk 2 ⟨c, k⟩ th p ⟨#[]⟩ false ⟨#[]⟩ 0) (w4.setCell ⟨w3.heap.size, 4, none⟩ (.int .u64 p))) := I.out.set 4 (.int .u64 p) (Ob.mk 2 ⟨c, k⟩ th p ⟨#[]⟩ false ⟨#[]⟩ 0) (by rw [heap_setCell_same _ _ _ _ _ _ I.out.o]; rfl); clear c0 c1 c2 c3 c4 c5 c6 c7 c8; clear f4; refine (HTx.out _ I.out.rd).mono ?_; rintro e w5 ⟨rfl, h5, k5⟩; replace I : Hid (TkOp 246 58 b w.heap.size w3.heap.size w r6 (Ob.mk 2 ⟨c, k⟩ th p ⟨#[]⟩ false ⟨#[]⟩ 0) w5) := I.out.read h5 k5; clear h5 k5; obtain ⟨c0, c1, c2, c3, c4, c5, c6, c7, c8⟩ := cells9 I.out.o; have f5 := frozen9 I.out.o 5)
        | (go_at_call 101; replace I : Hid (TkOp 246 58 b w.heap.size w3.heap.size w r6 (Ob.mk 2 ⟨c, k⟩ th p n false ⟨#[]⟩ 0) (w5.setCell ⟨w3.heap.size, 5, none⟩ (.string n))) := I.out.set 5 (.string n) (Ob.mk 2 ⟨c, k⟩ th p n false ⟨#[]⟩ 0) (by rw [heap_setCell_same _ _ _ _ _ _ I.out.o]; rfl); clear c0 c1 c2 c3 c4 c5 c6 c7 c8; clear f5; refine (HC.out _).mono ?_; rintro e w6 ⟨rfl, k6⟩; replace I : Hid (TkOp 246 58 b w.heap.size w3.heap.size w r6 (Ob.mk 2 ⟨c, k⟩ th p n false ⟨#[]⟩ 0) w6) := I.out.below k6; clear k6; obtain ⟨c0, c1, c2, c3, c4, c5, c6, c7, c8⟩ := cells9 I.out.o)
        | (go_at_call 169; refine (err_any b _ w6 I.out.rd).mono ?_; rintro e w6 ⟨rfl, rfl⟩)
        | (go_at_call 160; refine (fail_any b _ _ _ I.out.rd).mono ?_; rintro e w7 ⟨rfl, h7, k7⟩; replace I : Hid (TkOp 246 58 b w.heap.size w3.heap.size w (r6.fail e0) (Ob.mk 2 ⟨c, k⟩ th p n false ⟨#[]⟩ 0) w7) := I.out.read h7 k7; clear h7 k7)
        | (go_at_call 169; refine (err_any b _ w7 I.out.rd).mono ?_; rintro e w7 ⟨rfl, rfl⟩)
        | (refine wpList_store_row rfl 58 _ _ rfl _ _ rfl rfl 58 _ I.out.z infoOp rfl (by simp [Value.oneCell']) ?_)
        | (go_at_call_of 127 (Value.int IntKind.i64 8); refine (HN8.out _ h2).mono ?_; rintro e w3 ⟨rfl, h3, k3⟩)
        | (go_at_call 165; refine (HST.out _ h1).mono ?_; rintro e w2 ⟨rfl, h2, k2⟩)
        | (go_at_call_of 127 (Value.int IntKind.i64 1); refine (HN1.out _ (HA.out _)).mono ?_; rintro e w1 ⟨rfl, h1, k1⟩))
      obtain ⟨d1, d2, d3⟩ := I.out.done (Ob.zero).cs
      exact bodyPost_ret (results_cell_row Tryz.results129 _ _ _ _ _ (0, 0) _ rfl d3 Tryz.underlying58 rfl infoOp) rfl ⟨rfl, d1, d2⟩
  · have hr := r6.fail_ne e0 he
    rw [if_neg hr]
    have g0 : ((r6.fail e0).err == 0) = false := beq_eq_false_iff_ne.2 hr
    have g1 : (e0 == 0) = false := beq_eq_false_iff_ne.2 he
    clear hr he
    unfold Ob.v Ob.zero
    dsimp only
    go_enter Tryz.func129, Tryz.ntmps129
    go_wp2_with (first
      | (go_at_call_of 127 (Value.int IntKind.i64 8); have I : Hid (TkOp 246 58 b w.heap.size w3.heap.size w r3 (Ob.mk 2 ⟨c, k⟩ th 0 ⟨#[]⟩ false ⟨#[]⟩ 0) (w3.alloc (.cells (Ob.mk 2 ⟨c, k⟩ th 0 ⟨#[]⟩ false ⟨#[]⟩ 0).cs 58))) := TkOp.start HR.out k1 k2 k3 h3 (Ob.mk 2 ⟨c, k⟩ th 0 ⟨#[]⟩ false ⟨#[]⟩ 0); refine (HP8.out _ I.out.rd).mono ?_; rintro e w4 ⟨rfl, h4, k4⟩; replace I : Hid (TkOp 246 58 b w.heap.size w3.heap.size w r5 (Ob.mk 2 ⟨c, k⟩ th 0 ⟨#[]⟩ false ⟨#[]⟩ 0) w4) := I.out.read h4 k4; clear h4 k4; obtain ⟨c0, c1, c2, c3, c4, c5, c6, c7, c8⟩ := cells9 I.out.o; have f4 := frozen9 I.out.o 4)
      | (go_at_call 167; replace I : Hid (TkOp 246 58 b w.heap.size w3.heap.size w r5 (Ob.mk 2 ⟨c, k⟩ th p ⟨#[]⟩ false ⟨#[]⟩ 0) (w4.setCell ⟨w3.heap.size, 4, none⟩ (.int .u64 p))) := I.out.set 4 (.int .u64 p) (Ob.mk 2 ⟨c, k⟩ th p ⟨#[]⟩ false ⟨#[]⟩ 0) (by rw [heap_setCell_same _ _ _ _ _ _ I.out.o]; rfl); clear c0 c1 c2 c3 c4 c5 c6 c7 c8; clear f4; refine (HTx.out _ I.out.rd).mono ?_; rintro e w5 ⟨rfl, h5, k5⟩; replace I : Hid (TkOp 246 58 b w.heap.size w3.heap.size w r6 (Ob.mk 2 ⟨c, k⟩ th p ⟨#[]⟩ false ⟨#[]⟩ 0) w5) := I.out.read h5 k5; clear h5 k5; obtain ⟨c0, c1, c2, c3, c4, c5, c6, c7, c8⟩ := cells9 I.out.o; have f5 := frozen9 I.out.o 5)
      | (go_at_call 101; replace I : Hid (TkOp 246 58 b w.heap.size w3.heap.size w r6 (Ob.mk 2 ⟨c, k⟩ th p n false ⟨#[]⟩ 0) (w5.setCell ⟨w3.heap.size, 5, none⟩ (.string n))) := I.out.set 5 (.string n) (Ob.mk 2 ⟨c, k⟩ th p n false ⟨#[]⟩ 0) (by rw [heap_setCell_same _ _ _ _ _ _ I.out.o]; rfl); clear c0 c1 c2 c3 c4 c5 c6 c7 c8; clear f5; refine (HC.out _).mono ?_; rintro e w6 ⟨rfl, k6⟩; replace I : Hid (TkOp 246 58 b w.heap.size w3.heap.size w r6 (Ob.mk 2 ⟨c, k⟩ th p n false ⟨#[]⟩ 0) w6) := I.out.below k6; clear k6; obtain ⟨c0, c1, c2, c3, c4, c5, c6, c7, c8⟩ := cells9 I.out.o)
      | (go_at_call 169; refine (err_any b _ w6 I.out.rd).mono ?_; rintro e w6 ⟨rfl, rfl⟩)
      | (go_at_call 160; refine (fail_any b _ _ _ I.out.rd).mono ?_; rintro e w7 ⟨rfl, h7, k7⟩; replace I : Hid (TkOp 246 58 b w.heap.size w3.heap.size w (r6.fail e0) (Ob.mk 2 ⟨c, k⟩ th p n false ⟨#[]⟩ 0) w7) := I.out.read h7 k7; clear h7 k7)
      | (go_at_call 169; refine (err_any b _ w7 I.out.rd).mono ?_; rintro e w7 ⟨rfl, rfl⟩)
      | (refine wpList_store_row rfl 58 _ _ rfl _ _ rfl rfl 58 _ I.out.z infoOp rfl (by simp [Value.oneCell']) ?_)
      | (go_at_call_of 127 (Value.int IntKind.i64 8); refine (HN8.out _ h2).mono ?_; rintro e w3 ⟨rfl, h3, k3⟩)
      | (go_at_call 165; refine (HST.out _ h1).mono ?_; rintro e w2 ⟨rfl, h2, k2⟩)
      | (go_at_call_of 127 (Value.int IntKind.i64 1); refine (HN1.out _ (HA.out _)).mono ?_; rintro e w1 ⟨rfl, h1, k1⟩))
    obtain ⟨d1, d2, d3⟩ := I.out.done (Ob.zero).cs
    exact bodyPost_ret (results_cell_row Tryz.results129 _ _ _ _ _ (0, 0) _ rfl d3 Tryz.underlying58 rfl infoOp) rfl ⟨rfl, d1, d2⟩
set_option maxRecDepth 100000 in
set_option maxHeartbeats 2000000 in
theorem take_4 (b : Nat) (q r1 r2 r3 r4 r5 : St) (g : ByteArray) (z : Nat) (t : Tm) (th : Nat) (w : World) (h : Rd 246 b q w)
    (HN1 : Hid (∀ w, Rd 246 b q w → Calls Tryz.prog 127 #[.pointer (some ⟨b, 0, none⟩), .int .i64 1] w fun e w' => e = .returned (.int .u64 4) ∧ Rd 246 b r1 w' ∧ Kept b w w'))
    (HST : Hid (∀ w, Rd 246 b r1 w → Calls Tryz.prog 165 #[.pointer (some ⟨b, 0, none⟩)] w fun e w' => e = .returned t.v ∧ Rd 246 b r2 w' ∧ Kept b w w'))
    (HN8 : Hid (∀ w, Rd 246 b r2 w → Calls Tryz.prog 127 #[.pointer (some ⟨b, 0, none⟩), .int .i64 8] w fun e w' => e = .returned (.int .u64 th) ∧ Rd 246 b r3 w' ∧ Kept b w w'))
    (HHa : Hid (∀ w, Rd 246 b r3 w → Calls Tryz.prog 130 #[.pointer (some ⟨b, 0, none⟩)] w fun e w' => e = .returned (.string g) ∧ Rd 246 b r4 w' ∧ Kept b w w'))
    (HCo : Hid (∀ w, Rd 246 b r4 w → Calls Tryz.prog 168 #[.pointer (some ⟨b, 0, none⟩), .int .i64 8192] w fun e w' => e = .returned (.int .i64 z) ∧ Rd 246 b r5 w' ∧ Kept b w w'))
    (e0 : Int) (HC : Hid (∀ w, Calls Tryz.prog 101 #[(Ob.mk 4 t th 0 ⟨#[]⟩ false g z).v] w fun e w' => e = .returned (.int .i64 e0) ∧ Below w.heap.size w w')) :
    Calls Tryz.prog 129 #[.pointer (some ⟨b, 0, none⟩)] w fun e w' => e = .returned (if (r5.fail e0).err = 0 then Ob.mk 4 t th 0 ⟨#[]⟩ false g z else Ob.zero).v ∧ Rd 246 b (r5.fail e0) w' ∧ Kept b w w' := by
  have hlt := h.lt
  have HA : Hid (∀ o, Rd 246 b q (w.alloc o)) := fun o => Rd.of_heap h (heap_alloc_old w o hlt)
  have HR : Hid (Rd 246 b q w) := h
  clear h hlt
  obtain ⟨c, k⟩ := t
  unfold Tm.v at HST
  unfold Ob.v at HC
  dsimp only at HST HC ⊢
  by_cases he : e0 = 0
  · subst he
    rw [fail_0]
    by_cases hr : r5.err = 0
    · rw [if_pos hr]
      unfold Ob.v
      dsimp only
      go_enter Tryz.func129, Tryz.ntmps129
      go_wp2_with (first
        | (go_at_call 130; have I : Hid (TkOp 246 58 b w.heap.size w3.heap.size w r3 (Ob.mk 4 ⟨c, k⟩ th 0 ⟨#[]⟩ false ⟨#[]⟩ 0) (w3.alloc (.cells (Ob.mk 4 ⟨c, k⟩ th 0 ⟨#[]⟩ false ⟨#[]⟩ 0).cs 58))) := TkOp.start HR.out k1 k2 k3 h3 (Ob.mk 4 ⟨c, k⟩ th 0 ⟨#[]⟩ false ⟨#[]⟩ 0); refine (HHa.out _ I.out.rd).mono ?_; rintro e w4 ⟨rfl, h4, k4⟩; replace I : Hid (TkOp 246 58 b w.heap.size w3.heap.size w r4 (Ob.mk 4 ⟨c, k⟩ th 0 ⟨#[]⟩ false ⟨#[]⟩ 0) w4) := I.out.read h4 k4; clear h4 k4; obtain ⟨c0, c1, c2, c3, c4, c5, c6, c7, c8⟩ := cells9 I.out.o; have f7 := frozen9 I.out.o 7)
        | (go_at_call 168; replace I : Hid (TkOp 246 58 b w.heap.size w3.heap.size w r4 (Ob.mk 4 ⟨c, k⟩ th 0 ⟨#[]⟩ false g 0) (w4.setCell ⟨w3.heap.size, 7, none⟩ (.string g))) := I.out.set 7 (.string g) (Ob.mk 4 ⟨c, k⟩ th 0 ⟨#[]⟩ false g 0) (by rw [heap_setCell_same _ _ _ _ _ _ I.out.o]; rfl); clear c0 c1 c2 c3 c4 c5 c6 c7 c8; clear f7; refine (HCo.out _ I.out.rd).mono ?_; rintro e w5 ⟨rfl, h5, k5⟩; replace I : Hid (TkOp 246 58 b w.heap.size w3.heap.size w r5 (Ob.mk 4 ⟨c, k⟩ th 0 ⟨#[]⟩ false g 0) w5) := I.out.read h5 k5; clear h5 k5; obtain ⟨c0, c1, c2, c3, c4, c5, c6, c7, c8⟩ := cells9 I.out.o; have f8 := frozen9 I.out.o 8)
        | (go_at_call 101; replace I : Hid (TkOp 246 58 b w.heap.size w3.heap.size w r5 (Ob.mk 4 ⟨c, k⟩ th 0 ⟨#[]⟩ false g z) (w5.setCell ⟨w3.heap.size, 8, none⟩ (.int .i64 z))) := I.out.set 8 (.int .i64 z) (Ob.mk 4 ⟨c, k⟩ th 0 ⟨#[]⟩ false g z) (by rw [heap_setCell_same _ _ _ _ _ _ I.out.o]; rfl); clear c0 c1 c2 c3 c4 c5 c6 c7 c8; clear f8; refine (HC.out _).mono ?_; rintro e w6 ⟨rfl, k6⟩; replace I : Hid (TkOp 246 58 b w.heap.size w3.heap.size w r5 (Ob.mk 4 ⟨c, k⟩ th 0 ⟨#[]⟩ false g z) w6) := I.out.below k6; clear k6; obtain ⟨c0, c1, c2, c3, c4, c5, c6, c7, c8⟩ := cells9 I.out.o)
        | (go_at_call 169; refine (err_any b _ w6 I.out.rd).mono ?_; rintro e w6 ⟨rfl, rfl⟩)
        | (go_at_call 160; refine (fail_any b _ _ _ I.out.rd).mono ?_; rintro e w7 ⟨rfl, h7, k7⟩; replace I : Hid (TkOp 246 58 b w.heap.size w3.heap.size w (r5.fail e0) (Ob.mk 4 ⟨c, k⟩ th 0 ⟨#[]⟩ false g z) w7) := I.out.read h7 k7; clear h7 k7)
        | (go_at_call 169; refine (err_any b _ w7 I.out.rd).mono ?_; rintro e w7 ⟨rfl, rfl⟩)
        | (refine wpList_store_row rfl 58 _ _ rfl _ _ rfl rfl 58 _ I.out.z infoOp rfl (by simp [Value.oneCell']) ?_)
        | (go_at_call_of 127 (Value.int IntKind.i64 8); refine (HN8.out _ h2).mono ?_; rintro e w3 ⟨rfl, h3, k3⟩)
        | (go_at_call 165; refine (HST.out _ h1).mono ?_; rintro e w2 ⟨rfl, h2, k2⟩)
        | (go_at_call_of 127 (Value.int IntKind.i64 1); refine (HN1.out _ (HA.out _)).mono ?_; rintro e w1 ⟨rfl, h1, k1⟩))
      obtain ⟨d1, d2, d3⟩ := I.out.done (Ob.mk 4 ⟨c, k⟩ th 0 ⟨#[]⟩ false g z).cs
      exact bodyPost_ret (results_cell_row Tryz.results129 _ _ _ _ _ (0, 0) _ rfl d3 Tryz.underlying58 rfl infoOp) rfl ⟨rfl, d1, d2⟩
    · rw [if_neg hr]
      have g0 : (r5.err == 0) = false := beq_eq_false_iff_ne.2 hr
      clear hr
      unfold Ob.v Ob.zero
      dsimp only
      go_enter Tryz.func129, Tryz.ntmps129
      go_wp2_with (first
        | (go_at_call 130; have I : Hid (TkOp 246 58 b w.heap.size w3.heap.size w r3 (Ob.mk 4 ⟨c, k⟩ th 0 ⟨#[]⟩ false ⟨#[]⟩ 0) (w3.alloc (.cells (Ob.mk 4 ⟨c, k⟩ th 0 ⟨#[]⟩ false ⟨#[]⟩ 0).cs 58))) := TkOp.start HR.out k1 k2 k3 h3 (Ob.mk 4 ⟨c, k⟩ th 0 ⟨#[]⟩ false ⟨#[]⟩ 0); refine (HHa.out _ I.out.rd).mono ?_; rintro e w4 ⟨rfl, h4, k4⟩; replace I : Hid (TkOp 246 58 b w.heap.size w3.heap.size w r4 (Ob.mk 4 ⟨c, k⟩ th 0 ⟨#[]⟩ false ⟨#[]⟩ 0) w4) := I.out.read h4 k4; clear h4 k4; obtain ⟨c0, c1, c2, c3, c4, c5, c6, c7, c8⟩ := cells9 I.out.o; have f7 := frozen9 I.out.o 7)
        | (go_at_call 168; replace I : Hid (TkOp 246 58 b w.heap.size w3.heap.size w r4 (Ob.mk 4 ⟨c, k⟩ th 0 ⟨#[]⟩ false g 0) (w4.setCell ⟨w3.heap.size, 7, none⟩ (.string g))) := I.out.set 7 (.string g) (Ob.mk 4 ⟨c, k⟩ th 0 ⟨#[]⟩ false g 0) (by rw [heap_setCell_same _ _ _ _ _ _ I.out.o]; rfl); clear c0 c1 c2 c3 c4 c5 c6 c7 c8; clear f7; refine (HCo.out _ I.out.rd).mono ?_; rintro e w5 ⟨rfl, h5, k5⟩; replace I : Hid (TkOp 246 58 b w.heap.size w3.heap.size w r5 (Ob.mk 4 ⟨c, k⟩ th 0 ⟨#[]⟩ false g 0) w5) := I.out.read h5 k5; clear h5 k5; obtain ⟨c0, c1, c2, c3, c4, c5, c6, c7, c8⟩ := cells9 I.out.o; have f8 := frozen9 I.out.o 8)
        | (go_at_call 101; replace I : Hid (TkOp 246 58 b w.heap.size w3.heap.size w r5 (Ob.mk 4 ⟨c, k⟩ th 0 ⟨#[]⟩ false g z) (w5.setCell ⟨w3.heap.size, 8, none⟩ (.int .i64 z))) := I.out.set 8 (.int .i64 z) (Ob.mk 4 ⟨c, k⟩ th 0 ⟨#[]⟩ false g z) (by rw [heap_setCell_same _ _ _ _ _ _ I.out.o]; rfl); clear c0 c1 c2 c3 c4 c5 c6 c7 c8; clear f8; refine (HC.out _).mono ?_; rintro e w6 ⟨rfl, k6⟩; replace I : Hid (TkOp 246 58 b w.heap.size w3.heap.size w r5 (Ob.mk 4 ⟨c, k⟩ th 0 ⟨#[]⟩ false g z) w6) := I.out.below k6; clear k6; obtain ⟨c0, c1, c2, c3, c4, c5, c6, c7, c8⟩ := cells9 I.out.o)
        | (go_at_call 169; refine (err_any b _ w6 I.out.rd).mono ?_; rintro e w6 ⟨rfl, rfl⟩)
        | (go_at_call 160; refine (fail_any b _ _ _ I.out.rd).mono ?_; rintro e w7 ⟨rfl, h7, k7⟩; replace I : Hid (TkOp 246 58 b w.heap.size w3.heap.size w (r5.fail e0) (Ob.mk 4 ⟨c, k⟩ th 0 ⟨#[]⟩ false g z) w7) := I.out.read h7 k7; clear h7 k7)
        | (go_at_call 169; refine (err_any b _ w7 I.out.rd).mono ?_; rintro e w7 ⟨rfl, rfl⟩)
        | (refine wpList_store_row rfl 58 _ _ rfl _ _ rfl rfl 58 _ I.out.z infoOp rfl (by simp [Value.oneCell']) ?_)
        | (go_at_call_of 127 (Value.int IntKind.i64 8); refine (HN8.out _ h2).mono ?_; rintro e w3 ⟨rfl, h3, k3⟩)
        | (go_at_call 165; refine (HST.out _ h1).mono ?_; rintro e w2 ⟨rfl, h2, k2⟩)
        | (go_at_call_of 127 (Value.int IntKind.i64 1); refine (HN1.out _ (HA.out _)).mono ?_; rintro e w1 ⟨rfl, h1, k1⟩))
      obtain ⟨d1, d2, d3⟩ := I.out.done (Ob.zero).cs
      exact bodyPost_ret (results_cell_row Tryz.results129 _ _ _ _ _ (0, 0) _ rfl d3 Tryz.underlying58 rfl infoOp) rfl ⟨rfl, d1, d2⟩
  · have hr := r5.fail_ne e0 he
    rw [if_neg hr]
    have g0 : ((r5.fail e0).err == 0) = false := beq_eq_false_iff_ne.2 hr
    have g1 : (e0 == 0) = false := beq_eq_false_iff_ne.2 he
    clear hr he
    unfold Ob.v Ob.zero
    dsimp only
    go_enter Tryz.func129, Tryz.ntmps129
    go_wp2_with (first
      | (go_at_call 130; have I : Hid (TkOp 246 58 b w.heap.size w3.heap.size w r3 (Ob.mk 4 ⟨c, k⟩ th 0 ⟨#[]⟩ false ⟨#[]⟩ 0) (w3.alloc (.cells (Ob.mk 4 ⟨c, k⟩ th 0 ⟨#[]⟩ false ⟨#[]⟩ 0).cs 58))) := TkOp.start HR.out k1 k2 k3 h3 (Ob.mk 4 ⟨c, k⟩ th 0 ⟨#[]⟩ false ⟨#[]⟩ 0); refine (HHa.out _ I.out.rd).mono ?_; rintro e w4 ⟨rfl, h4, k4⟩; replace I : Hid (TkOp 246 58 b w.heap.size w3.heap.size w r4 (Ob.mk 4 ⟨c, k⟩ th 0 ⟨#[]⟩ false ⟨#[]⟩ 0) w4) := I.out.read h4 k4; clear h4 k4; obtain ⟨c0, c1, c2, c3, c4, c5, c6, c7, c8⟩ := cells9 I.out.o; have f7 := frozen9 I.out.o 7)
      | (go_at_call 168; replace I : Hid (TkOp 246 58 b w.heap.size w3.heap.size w r4 (Ob.mk 4 ⟨c, k⟩ th 0 ⟨#[]⟩ false g 0) (w4.setCell ⟨w3.heap.size, 7, none⟩ (.string g))) := I.out.set 7 (.string g) (Ob.mk 4 ⟨c, k⟩ th 0 ⟨#[]⟩ false g 0) (by rw [heap_setCell_same _ _ _ _ _ _ I.out.o]; rfl); clear c0 c1 c2 c3 c4 c5 c6 c7 c8; clear f7; refine (HCo.out _ I.out.rd).mono ?_; rintro e w5 ⟨rfl, h5, k5⟩; replace I : Hid (TkOp 246 58 b w.heap.size w3.heap.size w r5 (Ob.mk 4 ⟨c, k⟩ th 0 ⟨#[]⟩ false g 0) w5) := I.out.read h5 k5; clear h5 k5; obtain ⟨c0, c1, c2, c3, c4, c5, c6, c7, c8⟩ := cells9 I.out.o; have f8 := frozen9 I.out.o 8)
      | (go_at_call 101; replace I : Hid (TkOp 246 58 b w.heap.size w3.heap.size w r5 (Ob.mk 4 ⟨c, k⟩ th 0 ⟨#[]⟩ false g z) (w5.setCell ⟨w3.heap.size, 8, none⟩ (.int .i64 z))) := I.out.set 8 (.int .i64 z) (Ob.mk 4 ⟨c, k⟩ th 0 ⟨#[]⟩ false g z) (by rw [heap_setCell_same _ _ _ _ _ _ I.out.o]; rfl); clear c0 c1 c2 c3 c4 c5 c6 c7 c8; clear f8; refine (HC.out _).mono ?_; rintro e w6 ⟨rfl, k6⟩; replace I : Hid (TkOp 246 58 b w.heap.size w3.heap.size w r5 (Ob.mk 4 ⟨c, k⟩ th 0 ⟨#[]⟩ false g z) w6) := I.out.below k6; clear k6; obtain ⟨c0, c1, c2, c3, c4, c5, c6, c7, c8⟩ := cells9 I.out.o)
      | (go_at_call 169; refine (err_any b _ w6 I.out.rd).mono ?_; rintro e w6 ⟨rfl, rfl⟩)
      | (go_at_call 160; refine (fail_any b _ _ _ I.out.rd).mono ?_; rintro e w7 ⟨rfl, h7, k7⟩; replace I : Hid (TkOp 246 58 b w.heap.size w3.heap.size w (r5.fail e0) (Ob.mk 4 ⟨c, k⟩ th 0 ⟨#[]⟩ false g z) w7) := I.out.read h7 k7; clear h7 k7)
      | (go_at_call 169; refine (err_any b _ w7 I.out.rd).mono ?_; rintro e w7 ⟨rfl, rfl⟩)
      | (refine wpList_store_row rfl 58 _ _ rfl _ _ rfl rfl 58 _ I.out.z infoOp rfl (by simp [Value.oneCell']) ?_)
      | (go_at_call_of 127 (Value.int IntKind.i64 8); refine (HN8.out _ h2).mono ?_; rintro e w3 ⟨rfl, h3, k3⟩)
      | (go_at_call 165; refine (HST.out _ h1).mono ?_; rintro e w2 ⟨rfl, h2, k2⟩)
      | (go_at_call_of 127 (Value.int IntKind.i64 1); refine (HN1.out _ (HA.out _)).mono ?_; rintro e w1 ⟨rfl, h1, k1⟩))
    obtain ⟨d1, d2, d3⟩ := I.out.done (Ob.zero).cs
    exact bodyPost_ret (results_cell_row Tryz.results129 _ _ _ _ _ (0, 0) _ rfl d3 Tryz.underlying58 rfl infoOp) rfl ⟨rfl, d1, d2⟩
end Go.Proofs.YtkbboddibgfjbaaGreatDoor
/- Contracts: an operation off a reader, and of bytes, the program's; that it is awake. -/
namespace Go.Opn
open Go.Wire Go.Stamp
theorem St.raw1 (q : St) (h : q.r1.2 = 1) : q.raw = (((q.r3.1.bool.1.number 8).1.text 32).1, ⟨1, q.r2.2, q.r3.2, (q.r3.1.bool.1.number 8).2, ((q.r3.1.bool.1.number 8).1.text 32).2, q.r3.1.bool.2, ⟨#[]⟩, 0⟩) := by
  unfold St.raw; rw [if_pos h, h]; rfl
theorem St.raw2 (q : St) (h : q.r1.2 = 2) : q.raw = (((q.r3.1.number 8).1.text 32).1, ⟨2, q.r2.2, q.r3.2, (q.r3.1.number 8).2, ((q.r3.1.number 8).1.text 32).2, false, ⟨#[]⟩, 0⟩) := by
  unfold St.raw; rw [if_neg (by omega), if_pos h, h]; rfl
theorem St.raw4 (q : St) (h : q.r1.2 = 4) : q.raw = (((q.r3.1.bytes 32).1.count 8192).1, ⟨4, q.r2.2, q.r3.2, 0, ⟨#[]⟩, false, (q.r3.1.bytes 32).2, ((q.r3.1.bytes 32).1.count 8192).2⟩) := by
  unfold St.raw; rw [if_neg (by omega), if_neg (by omega), if_pos h, h]; rfl
theorem St.raw0 (q : St) (h1 : q.r1.2 ≠ 1) (h2 : q.r1.2 ≠ 2) (h4 : q.r1.2 ≠ 4) : q.raw = (q.r3.1, ⟨q.r1.2, q.r2.2, q.r3.2, 0, ⟨#[]⟩, false, ⟨#[]⟩, 0⟩) := by
  unfold St.raw; rw [if_neg h1, if_neg h2, if_neg h4]; rfl
theorem St.op_of (q : St) {r : St} {o : Ob} (h : q.raw = (r, o)) : q.op = (r.fail o.chk, if (r.fail o.chk).err = 0 then o else Ob.zero) := by
  unfold St.op; rw [h]
/-- What Decode answers. -/
def dec (s : ByteArray) : Ob × Int := (if (St.mk s 0 0).op.1.fin.err = 0 then (St.mk s 0 0).op.2 else Ob.zero, (St.mk s 0 0).op.1.fin.err)
theorem dec_bytes {o : Ob} (hok : o.tm.Ok) (hg : o.Good) : dec o.bytesB = (o, 0) := by
  have h := op_at (q := ⟨o.bytesB, 0, 0⟩) (A := []) (C := []) hok hg ⟨by simp [Ob.bytesB], rfl, rfl⟩
  unfold dec
  rw [h]
  have e : ((St.mk o.bytesB 0 0).on o.bytes.length).fin = (St.mk o.bytesB 0 0).on o.bytes.length := St.fin_end _ (by
    show ¬ 0 < ((o.bytesB.size : Nat) : Int) - ((0 + o.bytes.length : Nat) : Int)
    rw [size_list]; simp [Ob.bytesB])
  dsimp only
  rw [e]
  rfl
open Go.RowKit in
theorem dec_at {T S : Nat} {r : St} {o : Ob} {w w1 w2 w3 : World} (k1 : Below (w.alloc (.cells Ob.zero.cs S)).heap.size (w.alloc (.cells Ob.zero.cs S)) w1) (k2 : Kept (w.heap.size + 1) w1 w2) (h2 : Rd T (w.heap.size + 1) r w2) (k3 : Kept (w.heap.size + 1) (w2.alloc (.cells o.cs S)) w3) :
    w3.heap[w.heap.size]? = some (.cells Ob.zero.cs S (0, 0)) ∧ w3.heap[w2.heap.size]? = some (.cells o.cs S (0, 0)) ∧ Below w.heap.size w w3 := by
  have b1 := below_alloc_call k1
  have l2 := h2.lt
  have z1 : w1.heap[w.heap.size]? = some (.cells Ob.zero.cs S (0, 0)) := kept_block (heap_alloc_new _ _) k1
  have z2 := (k2.other w.heap.size (by omega) (row_lt z1)).trans z1
  have z3 := (k3.other w.heap.size (by omega) (by simp; omega)).trans (kept_alloc z2 _)
  have y3 := (k3.other w2.heap.size (by omega) (by simp)).trans (heap_alloc_new w2 (.cells o.cs S))
  exact ⟨z3, y3, ((b1.trans (k2.below.mono (by omega))).alloc (by omega) _).trans (k3.below.mono (by omega))⟩
end Go.Opn
namespace Go.Proofs.YtkbboddibgfjbaaGreatDoor
open Go.RowKit Go.Wire Go.Stamp Go.Opn
theorem takeOp_any (b : Nat) (q : St) (w : World) (h : Rd 246 b q w) (hq : q.pos ≤ q.s.size) (hs : q.s.size ≤ maxLen) :
    Calls Tryz.prog 129 #[.pointer (some ⟨b, 0, none⟩)] w fun e w' => e = .returned q.op.2.v ∧ Rd 246 b q.op.1 w' ∧ Kept b w w' := by
  have z1 : q.r1.1.s.size ≤ maxLen := by unfold St.r1; rw [St.number_s]; exact hs
  have z2 : q.r2.1.s.size ≤ maxLen := by unfold St.r2; rw [St.stamp_s]; exact z1
  have z3 : q.r3.1.s.size ≤ maxLen := by rw [St.r3_s]; exact hs
  have p1 := q.r1_le hq
  have p2 := q.r2_le hq
  have p3 := q.r3_le hq
  have HST : Hid (∀ w, Rd 246 b q.r1.1 w → Calls Tryz.prog 165 #[.pointer (some ⟨b, 0, none⟩)] w fun e w' => e = .returned q.r2.2.v ∧ Rd 246 b q.r2.1 w' ∧ Kept b w w') := fun w h => take_any b q.r1.1 w h p1 z1
  have HN8 : Hid (∀ w, Rd 246 b q.r2.1 w → Calls Tryz.prog 127 #[.pointer (some ⟨b, 0, none⟩), .int .i64 8] w fun e w' => e = .returned (.int .u64 (q.r3.2 : Nat)) ∧ Rd 246 b q.r3.1 w' ∧ Kept b w w') := fun w h => readerNumber_any b q.r2.1 8 w h p2 z2
  have HN1 : ∀ w, Rd 246 b q w → Calls Tryz.prog 127 #[.pointer (some ⟨b, 0, none⟩), .int .i64 1] w fun e w' => e = .returned (.int .u64 (q.r1.2 : Nat)) ∧ Rd 246 b q.r1.1 w' ∧ Kept b w w' := fun w h => readerNumber_any b q 1 w h hq hs
  have hk : q.r1.2 < 256 := q.number_lt 1 (by decide)
  by_cases k1 : q.r1.2 = 1
  · rw [St.op_of q (St.raw1 q k1)]
    rw [k1] at HN1
    have pb := q.r3.1.bool_le p3
    have pn := q.r3.1.bool.1.number_le 8 (by rw [St.bool_s]; exact pb)
    exact take_1 b q q.r1.1 q.r2.1 q.r3.1 _ _ _ _ _ _ q.r2.2 q.r3.2 w h HN1 HST HN8
      (fun w h => bool_any b q.r3.1 w h p3 z3)
      (fun w h => readerNumber_any b q.r3.1.bool.1 8 w h (by rw [St.bool_s]; exact pb) (by rw [St.bool_s]; exact z3))
      (fun w h => text_any b (q.r3.1.bool.1.number 8).1 32 w h (by rw [St.number_s]; exact pn) (by rw [St.number_s, St.bool_s]; exact z3) (by decide))
      _ (fun w => checkOp_any _ w)
  by_cases k2 : q.r1.2 = 2
  · rw [St.op_of q (St.raw2 q k2)]
    rw [k2] at HN1
    have pn := q.r3.1.number_le 8 p3
    exact take_2 b q q.r1.1 q.r2.1 q.r3.1 _ _ _ _ q.r2.2 q.r3.2 w h HN1 HST HN8
      (fun w h => readerNumber_any b q.r3.1 8 w h p3 z3)
      (fun w h => text_any b (q.r3.1.number 8).1 32 w h (by rw [St.number_s]; exact pn) (by rw [St.number_s]; exact z3) (by decide))
      _ (fun w => checkOp_any _ w)
  by_cases k4 : q.r1.2 = 4
  · rw [St.op_of q (St.raw4 q k4)]
    rw [k4] at HN1
    have pn := q.r3.1.bytes_le 32 p3
    exact take_4 b q q.r1.1 q.r2.1 q.r3.1 _ _ _ _ q.r2.2 q.r3.2 w h HN1 HST HN8
      (fun w h => hash_any b q.r3.1 w h p3 z3)
      (fun w h => count_any b (q.r3.1.bytes 32).1 8192 w h (by rw [St.bytes_s]; exact pn) (by rw [St.bytes_s]; exact z3) (by decide))
      _ (fun w => checkOp_any _ w)
  · rw [St.op_of q (St.raw0 q k1 k2 k4)]
    exact take_0 b q q.r1.1 q.r2.1 q.r3.1 q.r1.2 q.r2.2 q.r3.2 w h hk k1 k2 k4 HN1 HST HN8 _ (fun w => checkOp_any _ w)
/-- The operation of the wake-up call. -/
abbrev oA : Ob := ⟨1, ⟨3, 2⟩, 50, 0, ⟨#[97]⟩, false, ⟨#[]⟩, 0⟩
end Go.Proofs.YtkbboddibgfjbaaGreatDoor
