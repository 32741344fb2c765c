/- Contracts of the program's reader: counts, texts, digests, yes and no, the end. -/
import Derived.Test.YtcdmdpafkiljdaaGreatDoorWireValue
namespace Go.Proofs.YtcdmdpafkiljdaaGreatDoor
open Go.RowKit Go.Wire
set_option maxHeartbeats 1000000 in
theorem count_any (b : Nat) (q : St) (most : Int) (w : World) (h : Rd 98 b q w) (hq : q.pos ≤ q.s.size) (hs : q.s.size ≤ maxLen) (hm1 : most ≤ 9223372036854775807) :
    Calls Tryz.prog 64 #[.pointer (some ⟨b, 0, none⟩), .int .i64 most] w fun e w' => e = .returned (.int .i64 ((q.count most).2 : Nat)) ∧ Rd 98 b (q.count most).1 w' ∧ Kept b w w' := by
  have hlt : (q.number 4).2 < 4294967296 := q.number_lt 4 (by decide)
  have hps := q.number_le 4 hq
  have hpq := q.number_s 4
  have HN : ∀ {w : World}, Rd 98 b q w → Hid (Calls Tryz.prog 25 #[.pointer (some ⟨b, 0, none⟩), .int .i64 4] w fun e w' => e = .returned (.int .u64 ((q.number 4).2 : Nat)) ∧ Rd 98 b (q.number 4).1 w' ∧ Kept b w w') := fun h => readerNumber_any b q 4 _ h hq hs
  by_cases hm : most < 0
  · rw [St.count_no q most (.inl hm)]
    generalize (q.number 4).2 = n at hlt HN
    generalize (q.number 4).1 = p at hps hpq HN
    go_enter Tryz.func64, Tryz.ntmps64
    go_wp2_with (first
      | (go_at_call 57; refine (at_any b q _ h).mono ?_; rintro e w' ⟨rfl, rfl⟩)
      | (go_at_call 25; refine (HN h).out.mono ?_; rintro e w1 ⟨rfl, h1, k1⟩)
      | (go_at_call 60; refine (give_any b q.pos p 3 _ (by assumption)).mono ?_; rintro e w2 ⟨rfl, h2, k2⟩))
    go_ret
    exact ⟨rfl, by assumption, Kept.trans (by assumption) (by assumption)⟩
  · by_cases hn : most < (q.number 4).2
    · rw [St.count_no q most (.inr hn)]
      generalize (q.number 4).2 = n at hlt HN hn
      generalize (q.number 4).1 = p at hps hpq HN
      go_enter Tryz.func64, Tryz.ntmps64
      go_wp2_with (first
        | (go_at_call 57; refine (at_any b q _ h).mono ?_; rintro e w' ⟨rfl, rfl⟩)
        | (go_at_call 25; refine (HN h).out.mono ?_; rintro e w1 ⟨rfl, h1, k1⟩)
        | (go_at_call 60; refine (give_any b q.pos p 3 _ (by assumption)).mono ?_; rintro e w2 ⟨rfl, h2, k2⟩))
      go_ret
      exact ⟨rfl, by assumption, Kept.trans (by assumption) (by assumption)⟩
    · rw [St.count_yes q most (fun x => x.elim hm hn)]
      generalize (q.number 4).2 = n at hlt HN hn
      generalize (q.number 4).1 = p at hps hpq HN
      go_enter Tryz.func64, Tryz.ntmps64
      go_wp2_with (first
        | (go_at_call 57; refine (at_any b q _ h).mono ?_; rintro e w' ⟨rfl, rfl⟩)
        | (go_at_call 25; refine (HN h).out.mono ?_; rintro e w1 ⟨rfl, h1, k1⟩))
      go_ret
      exact ⟨rfl, by assumption, by assumption⟩
set_option maxHeartbeats 1000000 in
theorem text_any (b : Nat) (q : St) (most : Int) (w : World) (h : Rd 98 b q w) (hq : q.pos ≤ q.s.size) (hs : q.s.size ≤ maxLen) (hm1 : most ≤ 9223372036854775807) :
    Calls Tryz.prog 63 #[.pointer (some ⟨b, 0, none⟩), .int .i64 most] w fun e w' => e = .returned (.string (q.text most).2) ∧ Rd 98 b (q.text most).1 w' ∧ Kept b w w' := by
  have hlt := q.count_lt most
  have hps := q.count_le most hq
  have hpq := q.count_s most
  have hne := St.back_ne (q.count most).1 q.pos 4 (by decide)
  have HN : ∀ {w : World}, Rd 98 b q w → Hid (Calls Tryz.prog 64 #[.pointer (some ⟨b, 0, none⟩), .int .i64 most] w fun e w' => e = .returned (.int .i64 ((q.count most).2 : Nat)) ∧ Rd 98 b (q.count most).1 w' ∧ Kept b w w') := fun h => count_any b q most _ h hq hs hm1
  by_cases hc : (q.s.size : Int) - (q.count most).1.pos < (q.count most).2
  · rw [St.text_cut q most hq hc]
    generalize (q.count most).2 = n at hlt HN hc
    generalize (q.count most).1 = p at hps hpq HN hc hne
    rw [← hpq] at hc hps hs
    have hbe := St.bytes_err (p.back q.pos 4) n hne
    have hbs := St.back_s p q.pos 4
    have hle := St.back_le p q.pos 4 p.s.size hps (by rw [hpq]; exact hq)
    have HB : ∀ {w : World}, Rd 98 b (p.back q.pos 4) w → Hid (Calls Tryz.prog 59 #[.pointer (some ⟨b, 0, none⟩), .int .i64 n] w fun e w' => e = .returned (.string ⟨#[]⟩) ∧ Rd 98 b (p.back q.pos 4) w' ∧ Kept b w w') := fun h => by
      have := bytes_any b _ n _ h (by rw [hbs]; exact hle) (by rw [hbs]; exact hs)
      rwa [hbe] at this
    have HG : ∀ {w : World}, Rd 98 b p w → Hid (Calls Tryz.prog 60 #[.pointer (some ⟨b, 0, none⟩), .int .i64 q.pos, .int .i64 4] w fun e w' => e = .returned (.tuple #[]) ∧ Rd 98 b (p.back q.pos 4) w' ∧ Kept b w w') := fun h => give_any b q.pos p 4 _ h
    clear hbe hbs hne hle hpq
    generalize p.back q.pos 4 = r at HB HG
    go_enter Tryz.func63, Tryz.ntmps63
    go_wp2_with (first
      | (go_at_call 57; refine (at_any b q _ h).mono ?_; rintro e w' ⟨rfl, rfl⟩)
      | (go_at_call 64; refine (HN h).out.mono ?_; rintro e w1 ⟨rfl, h1, k1⟩)
      | (go_at_call 66; refine (left_any b p _ (by assumption) hps hs).mono ?_; rintro e w' ⟨rfl, rfl⟩)
      | (go_at_call 60; refine (HG (by assumption)).out.mono ?_; rintro e w2 ⟨rfl, h2, k2⟩)
      | (go_at_call 59; refine (HB (by assumption)).out.mono ?_; rintro e w3 ⟨rfl, h3, k3⟩))
    go_ret
    exact ⟨rfl, by assumption, ((Kept.trans (by assumption) (Kept.refl _ _).drew).trans (by assumption)).trans (by assumption)⟩
  · rw [St.text_ok q most hc]
    generalize (q.count most).2 = n at hlt HN hc
    generalize (q.count most).1 = p at hps hpq HN hc
    rw [← hpq] at hc hps hs
    clear hpq
    have HB : ∀ {w : World}, Rd 98 b p w → Hid (Calls Tryz.prog 59 #[.pointer (some ⟨b, 0, none⟩), .int .i64 n] w fun e w' => e = .returned (.string (p.bytes n).2) ∧ Rd 98 b (p.bytes n).1 w' ∧ Kept b w w') := fun h => bytes_any b p n _ h hps hs
    go_enter Tryz.func63, Tryz.ntmps63
    go_wp2_with (first
      | (go_at_call 57; refine (at_any b q _ h).mono ?_; rintro e w' ⟨rfl, rfl⟩)
      | (go_at_call 64; refine (HN h).out.mono ?_; rintro e w1 ⟨rfl, h1, k1⟩)
      | (go_at_call 66; refine (left_any b p _ (by assumption) hps hs).mono ?_; rintro e w' ⟨rfl, rfl⟩)
      | (go_at_call 59; refine (HB (by assumption)).out.mono ?_; rintro e w3 ⟨rfl, h3, k3⟩))
    go_ret
    exact ⟨rfl, by assumption, (Kept.trans (by assumption) (Kept.refl _ _).drew).trans (by assumption)⟩
set_option maxHeartbeats 400000 in
theorem hash_any (b : Nat) (q : St) (w : World) (h : Rd 98 b q w) (hq : q.pos ≤ q.s.size) (hs : q.s.size ≤ maxLen) :
    Calls Tryz.prog 28 #[.pointer (some ⟨b, 0, none⟩)] w fun e w' => e = .returned (.string (q.bytes 32).2) ∧ Rd 98 b (q.bytes 32).1 w' ∧ Kept b w w' := by
  go_enter Tryz.func28, Tryz.ntmps28
  go_wp2_with (go_at_call 59; refine (bytes_any b q 32 _ h hq hs).mono ?_; rintro e w1 ⟨rfl, h1, k1⟩)
  go_ret
  exact ⟨rfl, by assumption, by assumption⟩
set_option maxHeartbeats 1000000 in
theorem bool_any (b : Nat) (q : St) (w : World) (h : Rd 98 b q w) (hq : q.pos ≤ q.s.size) (hs : q.s.size ≤ maxLen) :
    Calls Tryz.prog 62 #[.pointer (some ⟨b, 0, none⟩)] w fun e w' => e = .returned (.bool q.bool.2) ∧ Rd 98 b q.bool.1 w' ∧ Kept b w w' := by
  have HN : ∀ {w : World}, Rd 98 b q w → Hid (Calls Tryz.prog 59 #[.pointer (some ⟨b, 0, none⟩), .int .i64 1] w fun e w' => e = .returned (.string (q.bytes 1).2) ∧ Rd 98 b (q.bytes 1).1 w' ∧ Kept b w w') := fun h => bytes_any b q 1 _ h hq hs
  by_cases hy : (q.bytes 1).2 = ⟨#[121]⟩
  · rw [St.bool_y q hy]
    rw [hy] at HN
    clear hy
    generalize (q.bytes 1).1 = p at HN
    go_enter Tryz.func62, Tryz.ntmps62
    go_wp2_with (first
      | (go_at_call 57; refine (at_any b q _ h).mono ?_; rintro e w' ⟨rfl, rfl⟩)
      | (go_at_call 59; refine (HN h).out.mono ?_; rintro e w1 ⟨rfl, h1, k1⟩))
    go_ret
    exact ⟨rfl, by assumption, by assumption⟩
  · by_cases hn : (q.bytes 1).2 = ⟨#[110]⟩
    · rw [St.bool_n q hn]
      rw [hn] at HN
      clear hy hn
      generalize (q.bytes 1).1 = p at HN
      go_enter Tryz.func62, Tryz.ntmps62
      go_wp2_with (first
        | (go_at_call 57; refine (at_any b q _ h).mono ?_; rintro e w' ⟨rfl, rfl⟩)
        | (go_at_call 59; refine (HN h).out.mono ?_; rintro e w1 ⟨rfl, h1, k1⟩))
      go_ret
      exact ⟨rfl, by assumption, by assumption⟩
    · rw [St.bool_other q hy hn]
      generalize (q.bytes 1).1 = p at HN
      generalize (q.bytes 1).2 = t at HN hy hn
      have hy2 := lit_ne (l := [121]) rfl hy
      have hn2 := lit_ne (l := [110]) rfl hn
      clear hy hn
      go_enter Tryz.func62, Tryz.ntmps62
      go_wp2_with (first
        | (go_at_call 57; refine (at_any b q _ h).mono ?_; rintro e w' ⟨rfl, rfl⟩)
        | (go_at_call 59; refine (HN h).out.mono ?_; rintro e w1 ⟨rfl, h1, k1⟩)
        | (go_at_call 60; refine (give_any b q.pos p 6 _ (by assumption)).mono ?_; rintro e w2 ⟨rfl, h2, k2⟩))
      go_ret
      exact ⟨rfl, by assumption, Kept.trans (by assumption) (by assumption)⟩
set_option maxHeartbeats 400000 in
theorem end_any (b : Nat) (q : St) (w : World) (h : Rd 98 b q w) (hq : q.pos ≤ q.s.size) (hs : q.s.size ≤ maxLen) :
    Calls Tryz.prog 29 #[.pointer (some ⟨b, 0, none⟩)] w fun e w' => e = .returned (.int .i64 q.fin.err) ∧ Rd 98 b q.fin w' ∧ Kept b w w' := by
  by_cases hl : 0 < (q.s.size : Int) - q.pos
  · rw [St.fin_fail q hl]
    go_enter Tryz.func29, Tryz.ntmps29
    go_wp2_with (first
      | (go_at_call 66; refine (left_any b q _ h hq hs).mono ?_; rintro e w' ⟨rfl, rfl⟩)
      | (go_at_call 56; refine (fail_any b q 5 _ (by exact h)).mono ?_; rintro e w1 ⟨rfl, h1, k1⟩)
      | (go_at_call 65; refine (err_any b (q.fail 5) _ (by assumption)).mono ?_; rintro e w' ⟨rfl, rfl⟩))
    go_ret
    exact ⟨rfl, by assumption, ((Kept.refl b w).drew).trans (by assumption)⟩
  · rw [St.fin_end q hl]
    go_enter Tryz.func29, Tryz.ntmps29
    go_wp2_with (first
      | (go_at_call 66; refine (left_any b q _ h hq hs).mono ?_; rintro e w' ⟨rfl, rfl⟩)
      | (go_at_call 65; refine (err_any b q _ (by exact h)).mono ?_; rintro e w' ⟨rfl, rfl⟩))
    go_ret
    exact ⟨rfl, h, (Kept.refl _ _).drew⟩
end Go.Proofs.YtcdmdpafkiljdaaGreatDoor
