/- A disk with any room and no fall to come: what is put is held, what is settled stays through a crash, and what a crash leaves was there: of no program. -/
import Derived.Test.YtnjkahoaogeecaaDiskRoom
namespace Go.Dk
open Go.RowKit
structure Lull (a : A) : Prop where
  room : a.room = -1
  fall : a.fall = none
  down : a.down = false
theorem Lull.change {a : A} (h : Lull a) (b : A) : a.change b = (b, 0) := by
  unfold A.change A.hit
  rw [h.fall]
theorem Lull.able {a : A} (h : Lull a) {name : Bs} (hn : nameOk name = true) : ableOf a name = 0 := by
  unfold ableOf
  rw [h.down, hn]
  rfl
theorem Lull.holds {a : A} (h : Lull a) (more : Int) : holdsOf a more = true := by
  unfold holdsOf
  rw [h.room]
  rfl
theorem Lull.put {a : A} (h : Lull a) {name : Bs} (hn : nameOk name = true) (p : Pt) : a.doPut name p = (a.puts (a.fileOf name) p, 0) := by
  unfold A.doPut
  rw [h.able hn, h.holds, h.change]
  simp
theorem Lull.puts {a : A} (h : Lull a) (f : AF) (p : Pt) : Lull (a.puts f p) := ⟨h.room, h.fall, h.down⟩
theorem Lull.left {a : A} (h : Lull a) (l : List AF) : Lull (a.left l) := ⟨h.room, h.fall, h.down⟩
theorem Lull.synced {a : A} (h : Lull a) : Lull a.synced := ⟨h.room, h.fall, h.down⟩
theorem Lull.of_change {a b : A} (h : Lull a) (hb : Lull b) : Lull (a.change b).1 := by rw [h.change]; exact hb
theorem Lull.act {z : A} (h : Lull z) (a : Ac) (h0 : 0 ≤ a.kind) (h5 : a.kind < 6) : Lull (z.actOf a) := by
  unfold A.actOf
  rw [if_neg (by omega), if_neg (by omega), if_neg (by omega), if_neg (by omega)]
  have hp : ∀ name p, Lull (z.doPut name p).1 := fun name p => by
    unfold A.doPut
    by_cases ha : ableOf z name ≠ 0
    · rw [if_pos ha]; exact h
    rw [if_neg ha, h.holds]
    exact h.of_change (h.puts _ _)
  unfold A.fileAct
  split
  · exact hp _ _
  split
  · unfold A.doMove
    split
    · exact h
    split
    · exact h
    split
    · exact h
    split
    · exact h
    exact h.of_change (h.left _)
  split
  · unfold A.doRemove
    split
    · exact h
    split
    · exact h
    exact h.of_change (h.left _)
  split
  · unfold A.doTrunc
    split
    · exact h
    split
    · exact h
    split
    · exact h
    exact h.of_change (h.left _)
  split
  · unfold A.doSync
    rw [h.down]
    exact h.synced
  exact hp _ _
/-! ### what is there, and what is sure -/
def A.has (a : A) (name s : Bs) : Prop := ∃ f ∈ a.files, f.name = name ∧ f.bytes = s
def A.firm (a : A) (name s : Bs) : Prop := ∃ f ∈ a.files, f.name = name ∧ f.sure = s ∧ f.settled = true ∧ f.puts = []
theorem firm_bytes {f : AF} {s : Bs} (hs : f.sure = s) (hp : f.puts = []) : f.bytes = s := by
  unfold AF.bytes
  rw [hp]
  exact hs
theorem fileOf_nm (a : A) (name : Bs) : (a.fileOf name).name = name := by
  unfold A.fileOf
  cases h : seek AF.name name a.files with
  | none => rfl
  | some f => exact (seek_some h).2
theorem A.has.seek {a : A} {name s : Bs} (h : a.has name s) (hr : Rises AF.name a.files) : ∃ f, Dk.seek AF.name name a.files = some f ∧ f.name = name ∧ f.bytes = s := by
  obtain ⟨f, hm, hn, hb⟩ := h
  exact ⟨f, by rw [← hn]; exact seek_mem hr hm, hn, hb⟩
theorem A.has.fileOf {a : A} {name s : Bs} (h : a.has name s) (hr : Rises AF.name a.files) : (a.fileOf name).bytes = s := by
  obtain ⟨f, hs, _, hb⟩ := h.seek hr
  unfold A.fileOf
  rw [hs]
  exact hb
theorem puts_has (a : A) (hr : Rises AF.name a.files) (name : Bs) (p : Pt) : (a.puts (a.fileOf name) p).has name (app (a.fileOf name).bytes p) :=
  ⟨(a.fileOf name).put p, (mem_ins_iff hr).2 (.inl rfl), fileOf_nm a name, AF.bytes_put _ _⟩
theorem A.has.synced {a : A} {name s : Bs} (h : a.has name s) : a.synced.firm name s := by
  obtain ⟨f, hm, hn, hb⟩ := h
  exact ⟨f.settle f.bytes, List.mem_map.2 ⟨f, hm, rfl⟩, hn, hb, rfl, rfl⟩
theorem Lull.sync {a : A} (h : Lull a) : a.doSync = (a.synced, 0) := by
  unfold A.doSync
  rw [h.down]
  rfl
theorem Lull.move {a : A} (h : Lull a) (hr : Rises AF.name a.files) {name dst s : Bs} (hn : nameOk name = true) (hd : nameOk dst = true) (hne : name ≠ dst) (hh : a.has name s) :
    ∃ b, a.doMove name dst = (b, 0) ∧ Lull b ∧ b.firm dst s := by
  obtain ⟨f, hs, _, hb⟩ := hh.seek hr
  refine ⟨a.left (ins AF.name (named dst f.bytes) (del AF.name name a.files)), ?_, h.left _, ?_⟩
  · unfold A.doMove
    rw [h.able hn, hs, hd]
    simp [hne, h.change]
  · exact ⟨named dst f.bytes, (mem_ins_iff hr.del).2 (.inl rfl), rfl, hb, rfl, rfl⟩
theorem Lull.trunc {a : A} (h : Lull a) (hr : Rises AF.name a.files) {name s : Bs} (hn : nameOk name = true) (hh : a.has name s) :
    ∃ b, a.doTrunc name s.length = (b, 0) ∧ Lull b ∧ b.firm name s := by
  obtain ⟨f, hs, hf, hb⟩ := hh.seek hr
  refine ⟨a.left (ins AF.name (f.settle (f.bytes.take s.length)) a.files), ?_, h.left _, ?_⟩
  · unfold A.doTrunc
    have hlt : ¬ ((s.length : Int) < 0 ∨ (f.bytes.length : Int) < (s.length : Int)) := by rw [hb]; omega
    rw [h.able hn, hs]
    simp only [ne_eq, not_true_eq_false, if_false]
    rw [if_neg hlt, h.change]
    rfl
  · exact ⟨f.settle (f.bytes.take s.length), (mem_ins_iff hr).2 (.inl rfl), hf, by rw [hb]; exact List.take_length, rfl, rfl⟩
theorem A.firm.puts {a : A} {name s : Bs} (h : a.firm name s) (hr : Rises AF.name a.files) {other : Bs} (hne : name ≠ other) (p : Pt) : (a.puts (a.fileOf other) p).firm name s := by
  obtain ⟨f, hm, hn, hx⟩ := h
  exact ⟨f, (mem_ins_iff hr).2 (.inr ⟨hm, by show f.name ≠ (a.fileOf other).name; rw [fileOf_nm, hn]; exact hne⟩), hn, hx⟩
theorem left_firm {f : AF} {s : Bs} (hs : f.sure = s) (ht : f.settled = true) (hp : f.puts = []) (keep torn : Int) : f.left (stays keep f.puts.length) torn = (s, true) := by
  unfold AF.left AF.after
  rw [hp, ht, hs]
  simp
theorem A.firm.crash {a : A} {name s : Bs} (h : a.firm name s) (hd : a.down = false) (keep torn : Int) : (a.crash keep torn).firm name s := by
  obtain ⟨f, hm, hn, hs, ht, hp⟩ := h
  have hl := left_firm hs ht hp keep torn
  unfold A.crash
  rw [hd]
  refine ⟨f.fallen keep torn, List.mem_map.2 ⟨f, List.mem_filter.2 ⟨hm, ?_⟩, rfl⟩, hn, ?_, rfl, rfl⟩
  · unfold AF.there; rw [hl]
  · show (f.left (stays keep f.puts.length) torn).1 = s
    rw [hl]
theorem A.firm.has {a : A} {name s : Bs} (h : a.firm name s) : a.has name s := by
  obtain ⟨f, hm, hn, hs, _, hp⟩ := h
  exact ⟨f, hm, hn, firm_bytes hs hp⟩
/-! ### what a crash leaves -/
theorem crash_names {a : A} (hd : a.down = false) (keep torn : Int) {f : AF} (hf : f ∈ (a.crash keep torn).files) : ∃ g ∈ a.files, g.name = f.name := by
  unfold A.crash at hf
  rw [hd] at hf
  obtain ⟨g, hg, he⟩ := List.mem_map.1 hf
  exact ⟨g, (List.mem_filter.1 hg).1, by rw [← he]; rfl⟩
theorem crash_loose {a : A} (hd : a.down = false) (keep torn : Int) : looseOf (a.crash keep torn).files = 0 := by
  unfold A.crash
  rw [hd]
  simp only [Bool.false_eq_true, if_false]
  unfold looseOf
  rw [List.map_map]
  generalize a.files.filter (·.there keep torn) = l
  induction l with
  | nil => rfl
  | cons x l ih => rw [List.map_cons, List.sum_cons, ih]; rfl
end Go.Dk
