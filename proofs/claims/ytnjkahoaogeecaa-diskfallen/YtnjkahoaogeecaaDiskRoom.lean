/- What all files hold together never passes the room: of no program. -/
import Derived.Test.YtnjkahoaogeecaaDiskAct
namespace Go.Dk
open Go.RowKit
theorem total_cons (f : AF) (l : List AF) : total (f :: l) = f.bytes.length + total l := by simp [total]
theorem total_ins (f : AF) : ∀ l : List AF, total (ins AF.name f l) ≤ total l + f.bytes.length
  | [] => by simp [ins, total]
  | g :: l => by
    have ih := total_ins f l
    unfold ins
    split
    · rw [total_cons, total_cons]; omega
    · split <;> simp only [total_cons] <;> omega
theorem seek_cons (k : Bs) (g : AF) (l : List AF) : seek AF.name k (g :: l) = if g.name = k then some g else seek AF.name k l := by
  unfold seek
  rw [List.find?_cons]
  by_cases h : g.name = k <;> simp [h]
theorem total_ins_some (f g : AF) : ∀ l : List AF, Rises AF.name l → seek AF.name f.name l = some g → total (ins AF.name f l) + g.bytes.length = total l + f.bytes.length
  | [], _, h => by simp [seek] at h
  | x :: l, hr, h => by
    unfold ins
    split
    · rename_i hb
      rw [seek_cons, if_neg (before_ne hb)] at h
      have ih := total_ins_some f g l hr.tail h
      rw [total_cons, total_cons]; omega
    · rename_i hb
      split
      · rename_i he
        rw [seek_cons, if_pos he] at h
        cases h
        rw [total_cons, total_cons]; omega
      · rename_i he
        rw [seek_cons, if_neg he] at h
        have hfg := before_of_not (by simpa using hb) he
        obtain ⟨hm, hn⟩ := seek_some h
        have := WideShapes.bytes_trans _ _ _ hfg (hr.head g hm)
        rw [hn, WideAt.bytes_irrefl] at this
        cases this
theorem total_del (k : Bs) : ∀ l : List AF, total (del AF.name k l) ≤ total l
  | [] => by simp [del]
  | x :: l => by
    have ih := total_del k l
    unfold del at ih ⊢
    rw [List.filter_cons]
    split <;> simp only [total_cons] <;> omega
theorem total_del_some (k : Bs) (g : AF) : ∀ l : List AF, seek AF.name k l = some g → total (del AF.name k l) + g.bytes.length ≤ total l
  | [], h => by simp [seek] at h
  | x :: l, h => by
    rw [seek_cons] at h
    by_cases hx : x.name = k
    · rw [if_pos hx] at h
      cases h
      have ih := total_del k l
      unfold del at ih ⊢
      rw [List.filter_cons, if_neg (by simp [hx])]
      simp only [total_cons]; omega
    · rw [if_neg hx] at h
      have ih := total_del_some k g l h
      unfold del at ih ⊢
      rw [List.filter_cons, if_pos (by simp [hx])]
      simp only [total_cons]; omega
/-- So much room, no fall, and no more than that in all files. -/
structure Ample (n : Nat) (a : A) : Prop where
  room : a.room = n
  fall : a.fall = none
  fits : total a.files ≤ n
theorem Ample.change {n : Nat} {a b : A} (h : Ample n a) (hb : Ample n b) : Ample n (a.change b).1 := by
  unfold A.change A.hit
  rw [h.fall]
  exact hb
theorem app_length (s : Bs) (p : Pt) : (app s p).length = (if p.whole = true then 0 else s.length) + p.s.length := by
  unfold app
  split <;> simp
theorem Ample.put {n : Nat} {a : A} (h : Ample n a) (hr : Rises AF.name a.files) (name : Bs) (p : Pt) : Ample n (a.doPut name p).1 := by
  unfold A.doPut
  by_cases ha : ableOf a name ≠ 0
  · rw [if_pos ha]; exact h
  rw [if_neg ha]
  by_cases hh : holdsOf a (((if p.whole = true then 0 else (a.fileOf name).bytes.length : Nat) : Int) + (p.s.length : Int) - ((a.fileOf name).bytes.length : Int)) = false
  · rw [if_pos hh]; exact h
  rw [if_neg hh]
  refine h.change ⟨h.room, h.fall, ?_⟩
  have hh : holdsOf a (((if p.whole = true then 0 else (a.fileOf name).bytes.length : Nat) : Int) + (p.s.length : Int) - ((a.fileOf name).bytes.length : Int)) = true := by simpa using hh
  unfold holdsOf at hh
  rw [h.room] at hh
  simp only [Bool.or_eq_true, Bool.not_eq_true', decide_eq_false_iff_not, decide_eq_true_eq] at hh
  have hf := h.fits
  have hlen := app_length (a.fileOf name).bytes p
  rw [← AF.bytes_put] at hlen
  show total (ins AF.name ((a.fileOf name).put p) a.files) ≤ n
  cases hs : seek AF.name name a.files with
  | none =>
    have hfo : a.fileOf name = ⟨name, [], false, []⟩ := by unfold A.fileOf; rw [hs]; rfl
    rw [hfo] at hh hlen ⊢
    have h1 := total_ins ((⟨name, [], false, []⟩ : AF).put p) a.files
    have h0 : (⟨name, [], false, []⟩ : AF).bytes.length = 0 := rfl
    rw [h0] at hh hlen
    by_cases hw : p.whole = true
    · rw [if_pos hw] at hh hlen; omega
    · rw [if_neg hw] at hh hlen; omega
  | some g =>
    have hfo : a.fileOf name = g := by unfold A.fileOf; rw [hs]; rfl
    rw [hfo] at hh hlen ⊢
    have h1 := total_ins_some (g.put p) g a.files hr (by have := (seek_some hs).2; show seek AF.name g.name a.files = some g; rw [this]; exact hs)
    by_cases hw : p.whole = true
    · rw [if_pos hw] at hh hlen; omega
    · rw [if_neg hw] at hh hlen; omega
theorem Ample.move {n : Nat} {a : A} (h : Ample n a) (name dst : Bs) : Ample n (a.doMove name dst).1 := by
  unfold A.doMove
  split
  · exact h
  split
  · exact h
  rename_i f hs
  split
  · exact h
  split
  · exact h
  refine h.change ⟨h.room, h.fall, ?_⟩
  have h1 := total_del_some name f a.files hs
  have h2 := total_ins (named dst f.bytes) (del AF.name name a.files)
  have h3 : (named dst f.bytes).bytes.length = f.bytes.length := rfl
  have hf := h.fits
  show total (ins AF.name (named dst f.bytes) (del AF.name name a.files)) ≤ n
  omega
theorem Ample.remove {n : Nat} {a : A} (h : Ample n a) (name : Bs) : Ample n (a.doRemove name).1 := by
  unfold A.doRemove
  split
  · exact h
  split
  · exact h
  exact h.change ⟨h.room, h.fall, Nat.le_trans (total_del name a.files) h.fits⟩
theorem Ample.trunc {n : Nat} {a : A} (h : Ample n a) (hr : Rises AF.name a.files) (name : Bs) (k : Int) : Ample n (a.doTrunc name k).1 := by
  unfold A.doTrunc
  split
  · exact h
  split
  · exact h
  rename_i f hs
  split
  · exact h
  refine h.change ⟨h.room, h.fall, ?_⟩
  have h1 := total_ins_some (f.settle (f.bytes.take k.toNat)) f a.files hr (by have := (seek_some hs).2; show seek AF.name f.name a.files = some f; rw [this]; exact hs)
  rw [AF.bytes_settle, List.length_take] at h1
  have hf := h.fits
  show total (ins AF.name (f.settle (f.bytes.take k.toNat)) a.files) ≤ n
  omega
theorem Ample.act {n : Nat} {z : A} (h : Ample n z) (hr : Rises AF.name z.files) (a : Ac) (h0 : 0 ≤ a.kind) (h4 : a.kind ≤ 4) : Ample n (z.actOf a) := by
  unfold A.actOf
  rw [if_neg (by omega), if_neg (by omega), if_neg (by omega), if_neg (by omega)]
  unfold A.fileAct
  split
  · exact h.put hr _ _
  split
  · exact h.move _ _
  split
  · exact h.remove _
  split
  · exact h.trunc hr _ _
  rw [if_neg (by omega)]
  exact h.put hr _ _
theorem Both.rises {P : Program} {base K d : Nat} {w : World} {S : WD} {D : RD} (h : Both P base K d w S D) : Rises AF.name D.a.files := by
  rw [← h.ref.same]
  exact List.pairwise_map.2 h.ref.rises
theorem Both.more {P : Program} {base K d : Nat} {w : World} {S : WD} {D : RD} (h : Both P base K d w S D) (hK : K + 1 ≤ 100000) : Both P base (K + 1) d w S D :=
  ⟨h.disk.mono (Nat.le_succ K) hK, h.ref.mono (Nat.le_succ K) hK, h.same, h.start, h.room⟩
theorem and_small (n : Int) (c : Nat) (hc : c < 1000) : ∃ m : Nat, m ≤ c ∧ bits .and .i64 n (c : Int) = (m : Int) := by
  have h1 : (BitVec.ofInt 64 n &&& BitVec.ofInt 64 (c : Int)).toNat ≤ c := by
    rw [BitVec.toNat_and]
    refine Nat.le_trans Nat.and_le_right ?_
    simp
    omega
  refine ⟨(BitVec.ofInt 64 n &&& BitVec.ofInt 64 (c : Int)).toNat, h1, ?_⟩
  have e : bits .and .i64 n (c : Int) = IntKind.i64.wrap ((BitVec.ofInt 64 n &&& BitVec.ofInt 64 (c : Int)).toNat : Int) := rfl
  rw [e]
  generalize (BitVec.ofInt 64 n &&& BitVec.ofInt 64 (c : Int)).toNat = m at h1
  simp [IntKind.wrap, IntKind.bits, IntKind.signed]
  omega
/-- So much room is given to a new disk. -/
def roomAct (m : Nat) : Ac := ⟨8, ByteArray.empty, ByteArray.empty, ByteArray.empty, m, ⟨0, 0, 0⟩⟩
theorem roomAct_fits {m : Nat} (hm : m ≤ 127) : (roomAct m).Fits := by
  refine ⟨?_, ?_, ?_, ?_, ?_, ?_, ?_, ?_⟩ <;> simp [roomAct]
  omega
theorem roomAct_ample (m : Nat) (z : A) (hz : z = ⟨[], -1, none, 0, false⟩) : Ample m (z.actOf (roomAct m)) := by
  rw [act_kind8 rfl, hz]
  exact ⟨rfl, rfl, Nat.zero_le _⟩
end Go.Dk
