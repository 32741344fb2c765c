/- Contracts: the calls of the program's disk, one behind the other, on a disk with any room and no fall to come; a side's block and a boxed fall stand. -/
import Derived.Test.YtnjkahoaogeecaaDiskFirm
namespace Go.Dk
open Go.RowKit
structure Stand (P : Program) (W : World) (f : Fall) (X d K : Nat) (w : World) (z : A) : Prop where
  disk : ∃ T : WD, T.a = z ∧ DiskAt P (W.heap.size + 1) K d w T
  start : W.heap.size + 1 ≤ w.heap.size
  below : Below W.heap.size W w
  side : ∃ p q r s t, w.heap[X]? = some (.cells #[.pointer (some ⟨d, 0, none⟩), p, q, r, s, t] 29 (0, 0))
  box : w.heap[W.heap.size]? = some (.cells #[.int .i64 f.on, .int .i64 f.keep, .int .i64 f.torn] 34 (0, 0))
theorem Stand.step {P : Program} {W : World} {f : Fall} {X d K K' : Nat} {w w' : World} {z z' : A} (h : Stand P W f X d K w z) (hk : Dsk (W.heap.size + 1) w w') (hd : ∃ T : WD, T.a = z' ∧ DiskAt P (W.heap.size + 1) K' d w' T) : Stand P W f X d K' w' z' := by
  obtain ⟨p, q, r, s, t, hx⟩ := h.side
  exact ⟨hd, Nat.le_trans h.start hk.size, h.below.trans ((hk.below h.start).mono (Nat.le_succ _)), ⟨p, q, r, s, t, box_kept hk hx (by simp [dkind])⟩, (hk.block _ (block_lt h.box) (by rintro ⟨hge, _⟩; omega)).trans h.box⟩
theorem DiskAt.rises {P : Program} {base K d : Nat} {w : World} {S : WD} (h : DiskAt P base K d w S) : Rises AF.name S.a.files := by
  rw [← h.same]
  exact List.pairwise_map.2 h.files.rises
theorem Stand.rises {P : Program} {W : World} {f : Fall} {X d K : Nat} {w : World} {z : A} (h : Stand P W f X d K w z) : Rises AF.name z.files := by
  obtain ⟨T, rfl, hD⟩ := h.disk
  exact hD.rises
end Go.Dk
namespace Go.Proofs.Ytnjkahoaogeecaa
open Go.RowKit Go.Dk
variable {W : World} {f : Fall} {X d K : Nat} {w : World} {z : A}
theorem st_did {r : A × Int} {K' : Nat} {e : Ending} {w' : World} (h : Stand Try.prog W f X d K w z) (hd : Did Try.prog (W.heap.size + 1) K' d w r e w') : e = .returned (.int .i64 r.2) ∧ Stand Try.prog W f X d K' w' r.1 := by
  obtain ⟨he, T, hT, hD, hk⟩ := hd
  exact ⟨he, h.step hk ⟨T, hT, hD⟩⟩
theorem st_write (h : Stand Try.prog W f X d K w z) (hl : Lull z) (hK : K + 1 ≤ 100000) (name s : ByteArray) (hn : nameOk name.data.toList = true) (hz : name.size ≤ maxLen) (hs : s.size ≤ 100) :
    Calls Try.prog 12 #[.pointer (some ⟨d, 0, none⟩), .string name, .string s] w fun e w' => e = .returned (.int .i64 0) ∧ Stand Try.prog W f X d (K + 1) w' (z.puts (z.fileOf name.data.toList) ⟨s.data.toList, true⟩) := by
  obtain ⟨T, hT, hD⟩ := h.disk
  refine (write_op (W.heap.size + 1) K d T name s w hD h.start hK hz hs).mono fun e w' hd => ?_
  rw [hT, hl.put hn] at hd
  exact st_did h hd
theorem st_append (h : Stand Try.prog W f X d K w z) (hl : Lull z) (hK : K + 1 ≤ 100000) (name s : ByteArray) (hn : nameOk name.data.toList = true) (hz : name.size ≤ maxLen) (hs : s.size ≤ 100) :
    Calls Try.prog 13 #[.pointer (some ⟨d, 0, none⟩), .string name, .string s] w fun e w' => e = .returned (.int .i64 0) ∧ Stand Try.prog W f X d (K + 1) w' (z.puts (z.fileOf name.data.toList) ⟨s.data.toList, false⟩) := by
  obtain ⟨T, hT, hD⟩ := h.disk
  refine (append_op (W.heap.size + 1) K d T name s w hD h.start hK hz hs).mono fun e w' hd => ?_
  rw [hT, hl.put hn] at hd
  exact st_did h hd
theorem st_sync (h : Stand Try.prog W f X d K w z) (hl : Lull z) (hK : K + 1 ≤ 100000) {name s : Bs} (hh : z.has name s) :
    Calls Try.prog 14 #[.pointer (some ⟨d, 0, none⟩)] w fun e w' => e = .returned (.int .i64 0) ∧ ∃ z', Stand Try.prog W f X d (K + 1) w' z' ∧ Lull z' ∧ z'.firm name s := by
  obtain ⟨T, hT, hD⟩ := h.disk
  refine (sync_op (W.heap.size + 1) (K + 1) d T w (hD.mono (Nat.le_succ _) hK)).mono fun e w' hd => ?_
  rw [hT, hl.sync] at hd
  obtain ⟨he, hS⟩ := st_did h hd
  exact ⟨he, _, hS, hl.synced, hh.synced⟩
theorem st_move (h : Stand Try.prog W f X d K w z) (hl : Lull z) (hK : K + 1 ≤ 100000) (name dst : ByteArray) {s : Bs} (hn : nameOk name.data.toList = true) (hm : nameOk dst.data.toList = true) (hne : name.data.toList ≠ dst.data.toList) (hz : name.size ≤ maxLen) (hy : dst.size ≤ maxLen) (hh : z.has name.data.toList s) :
    Calls Try.prog 15 #[.pointer (some ⟨d, 0, none⟩), .string name, .string dst] w fun e w' => e = .returned (.int .i64 0) ∧ ∃ z', Stand Try.prog W f X d (K + 1) w' z' ∧ Lull z' ∧ z'.firm dst.data.toList s := by
  obtain ⟨T, hT, hD⟩ := h.disk
  obtain ⟨b, hb, hbl, hbf⟩ := hl.move h.rises hn hm hne hh
  refine (move_op (W.heap.size + 1) K d T name dst w hD h.start hK hz hy).mono fun e w' hd => ?_
  rw [hT, hb] at hd
  obtain ⟨he, hS⟩ := st_did h hd
  exact ⟨he, _, hS, hbl, hbf⟩
theorem st_trunc (h : Stand Try.prog W f X d K w z) (hl : Lull z) (hK : K + 1 ≤ 100000) (name : ByteArray) {s : Bs} {n : Int} (hsn : n = s.length) (hn : nameOk name.data.toList = true) (hz : name.size ≤ maxLen) (hh : z.has name.data.toList s) :
    Calls Try.prog 16 #[.pointer (some ⟨d, 0, none⟩), .string name, .int .i64 n] w fun e w' => e = .returned (.int .i64 0) ∧ ∃ z', Stand Try.prog W f X d (K + 1) w' z' ∧ Lull z' ∧ z'.firm name.data.toList s := by
  obtain ⟨T, hT, hD⟩ := h.disk
  obtain ⟨b, hb, hbl, hbf⟩ := hl.trunc h.rises hn hh
  refine (trunc_op (W.heap.size + 1) K d T name n w hD h.start hK hz).mono fun e w' hd => ?_
  rw [hT, hsn, hb] at hd
  obtain ⟨he, hS⟩ := st_did h hd
  exact ⟨he, _, hS, hbl, hbf⟩
theorem st_crash (h : Stand Try.prog W f X d K w z) (hl : Lull z) {name s : Bs} (hh : z.firm name s) :
    Calls Try.prog 17 #[.pointer (some ⟨d, 0, none⟩), .int .i64 f.keep, .int .i64 f.torn] w fun e w' => e = .returned (.tuple #[]) ∧ ∃ z', Stand Try.prog W f X d K w' z' ∧ z'.firm name s := by
  obtain ⟨T, hT, hD⟩ := h.disk
  refine (crash_op (W.heap.size + 1) K d T f.keep f.torn w hD h.start).mono ?_
  rintro e w' ⟨he, T', hT', hD', hk⟩
  exact ⟨he, _, h.step hk ⟨T', hT', hD'⟩, by rw [hT]; exact hh.crash hl.down _ _⟩
theorem st_up (h : Stand Try.prog W f X d K w z) {name s : Bs} (hh : z.firm name s) :
    Calls Try.prog 18 #[.pointer (some ⟨d, 0, none⟩)] w fun e w' => (∃ b, e = .returned (.bool b)) ∧ ∃ z', Stand Try.prog W f X d K w' z' ∧ z'.down = false ∧ z'.firm name s := by
  obtain ⟨T, hT, hD⟩ := h.disk
  refine (up_op (W.heap.size + 1) K d T w hD).mono ?_
  rintro e w' ⟨he, T', hT', hD', hk⟩
  exact ⟨⟨_, he⟩, _, h.step hk ⟨T', hT', hD'⟩, rfl, by rw [hT]; exact hh⟩
theorem st_read (h : Stand Try.prog W f X d K w z) (hd : z.down = false) (name : ByteArray) {s : Bs} (hn : nameOk name.data.toList = true) (hz : name.size ≤ maxLen) (hh : z.firm name.data.toList s) :
    Calls Try.prog 19 #[.pointer (some ⟨d, 0, none⟩), .string name] w fun e w' => e = .returned (.tuple #[.string ⟨s.toArray⟩, .int .i64 0]) ∧ w' = w := by
  obtain ⟨g, hs, _, hb⟩ := hh.has.seek h.rises
  obtain ⟨T, rfl, hD⟩ := h.disk
  obtain ⟨F, hF, hFa⟩ := seek_of hD hs
  refine (read_some (W.heap.size + 1) K d T name F w hD hz (by unfold ableOf; rw [hd, hn]; rfl) hF).mono ?_
  rintro e w' ⟨he, hw⟩
  refine ⟨?_, hw⟩
  rw [he, hFa, hb]
end Go.Proofs.Ytnjkahoaogeecaa
