/- Contracts of Append and Write. -/
import Derived.Test.YtoineobjmllicaaGreatDoorDiskPuts
namespace Go.Dk
open Go.RowKit
variable {M : Nat → Prop}
/-- The file that has a name, or one that is not there yet. -/
def A.fileOf (a : A) (name : Bs) : AF := (seek AF.name name a.files).getD ⟨name, [], false, []⟩
theorem DiskAt.seek {P : Program} {base K d : Nat} {w : World} {S : WD} (h : DiskAt P M base K d w S) (name : Bs) : (seek WF.nm name S.fs).map WF.a = seek AF.name name S.a.files := by
  rw [← h.same]
  exact map_seek (na := WF.nm) (nb := AF.name) WF.a (fun _ => rfl) name S.fs
end Go.Dk
namespace Go.Proofs.YtoineobjmllicaaGreatDoor
open Go.RowKit Go.Dk
variable {M : Nat → Prop}
theorem open_any (base K d : Nat) (S : WD) (name : ByteArray) (w : World) (h : DiskAt Tryz.prog M base K d w S) (hbase : base ≤ w.heap.size) (hs : name.size ≤ maxLen) (hn : nameOk name.data.toList = true) :
    Calls Tryz.prog 60 #[.pointer (some ⟨d, 0, none⟩), .string name] w fun e w' => ∃ F : WF, e = .returned (.pointer (some ⟨F.blk, 0, none⟩)) ∧ OpenAt base K w' S F name ∧ F.a = S.a.fileOf name.data.toList ∧ Below w.heap.size w w' := by
  have hsk := h.seek name.data.toList
  cases hf : seek WF.nm name.data.toList S.fs with
  | none =>
    rw [hf] at hsk
    refine (open_none base K d S name w h hs hf).mono ?_
    rintro e w' ⟨rfl, hr, hb, -⟩
    refine ⟨⟨⟨name.data.toList, [], false, []⟩, w.heap.size, .slice none 0 0, .slice none 0 0, []⟩, rfl, ⟨FileAt.fresh _ hbase hr, rfl, fun G hG _ b hb' hx => ?_, ⟨Nat.zero_le _, fun i => by simp [AF.after], hn⟩⟩, ?_, hb⟩
    · have hlt := (h.files.files G hG).foot_lt hb'
      rcases hx with e | e | ⟨q, hq, e⟩
      · exact absurd hlt (by rw [show b = w.heap.size from e]; exact Nat.lt_irrefl _)
      · cases e
      · simp only [WF.alls, List.map_nil, List.mem_singleton] at hq
        subst hq
        cases e
    · unfold A.fileOf
      rw [← hsk]
      rfl
  | some F =>
    rw [hf] at hsk
    obtain ⟨hm, hnm⟩ := seek_some hf
    refine (open_some base K d S name F w h hs hf).mono ?_
    rintro e w' ⟨rfl, rfl⟩
    refine ⟨F, rfl, ⟨h.files.files F hm, hnm, fun G hG hne => h.files.apart G hG F hm hne, h.small F hm⟩, ?_, Below.refl _ _⟩
    unfold A.fileOf
    rw [← hsk]
    rfl
theorem able_ok {a : A} {s : Bs} (h : ableOf a s = 0) : a.down = false ∧ nameOk s = true := by
  unfold ableOf at h
  cases hd : a.down with
  | true => rw [hd] at h; simp at h
  | false =>
    rw [hd] at h
    cases hn : nameOk s with
    | true => exact ⟨rfl, rfl⟩
    | false => rw [hn] at h; simp at h
theorem append_err (base K d : Nat) (S : WD) (name s : ByteArray) (r : Int) (w : World) (h : DiskAt Tryz.prog M base K d w S) (hs : name.size ≤ maxLen) (hr : ableOf S.a name.data.toList = r) (h0 : r ≠ 0) :
    Calls Tryz.prog 50 #[.pointer (some ⟨d, 0, none⟩), .string name, .string s] w fun e w' => e = .returned (.int .i64 r) ∧ w' = w := by
  have HA := hide (able_any base K d S name r w h hs hr)
  clear h hs hr
  have hne : (r != 0) = true := by simpa using h0
  go_enter Tryz.func50, Tryz.ntmps50
  go_wp2_with (go_at_call 58; refine HA.out.mono ?_; rintro e w' ⟨rfl, rfl⟩)
  go_ret
  exact ⟨rfl, rfl⟩
theorem append_nil (name s : ByteArray) (w : World) : Calls Tryz.prog 50 #[.pointer none, .string name, .string s] w fun e w' => e = .returned (.int .i64 7) ∧ w' = w := by
  go_enter Tryz.func50, Tryz.ntmps50
  go_wp2_with (go_at_call 58; refine (able_nil name _).mono ?_; rintro e w' ⟨rfl, rfl⟩)
  go_ret
  exact ⟨rfl, rfl⟩
theorem append_put (base K d : Nat) (S : WD) (name s : ByteArray) (w : World) (h : DiskAt Tryz.prog M base K d w S) (hbase : base ≤ w.heap.size) (hs : name.size ≤ maxLen) (ha : ableOf S.a name.data.toList = 0) (r : Int) (R : World → Prop)
    (hput : ∀ (F : WF) w1, OpenAt base K w1 S F name → F.a = S.a.fileOf name.data.toList → Below w.heap.size w w1 → Calls Tryz.prog 59 #[.pointer (some ⟨d, 0, none⟩), .string name, .pointer (some ⟨F.blk, 0, none⟩), F.nowV, .string s] w1 fun e w' => e = .returned (.int .i64 r) ∧ R w') :
    Calls Tryz.prog 50 #[.pointer (some ⟨d, 0, none⟩), .string name, .string s] w fun e w' => e = .returned (.int .i64 r) ∧ R w' := by
  have HA := hide (able_any base K d S name 0 w h hs ha)
  have HO := hide (open_any base K d S name w h hbase hs (able_ok ha).2)
  have HP := hide hput
  have hlim := h.lim
  clear h hput
  go_enter Tryz.func50, Tryz.ntmps50
  go_wp2_with (first
    | (go_at_call 58; refine HA.out.mono ?_; rintro e w' ⟨rfl, rfl⟩)
    | (go_at_call 60; refine HO.out.mono ?_; rintro e w1 ⟨F, rfl, hO, hFa, hb⟩)
    | (go_at_call 63; refine (now_any base F w1 hO.file (by rw [hO.file.story.length]; have := hO.small.puts; omega)).mono ?_; rintro e w2 ⟨rfl, rfl⟩)
    | (go_at_call 59; refine (HP.out F _ hO hFa (by exact hb)).mono ?_; rintro e w3 ⟨rfl, hR⟩))
  go_ret
  exact ⟨rfl, hR⟩
theorem write_err (base K d : Nat) (S : WD) (name s : ByteArray) (r : Int) (w : World) (h : DiskAt Tryz.prog M base K d w S) (hs : name.size ≤ maxLen) (hr : ableOf S.a name.data.toList = r) (h0 : r ≠ 0) :
    Calls Tryz.prog 31 #[.pointer (some ⟨d, 0, none⟩), .string name, .string s] w fun e w' => e = .returned (.int .i64 r) ∧ w' = w := by
  have HA := hide (able_any base K d S name r w h hs hr)
  clear h hs hr
  have hne : (r != 0) = true := by simpa using h0
  go_enter Tryz.func31, Tryz.ntmps31
  go_wp2_with (go_at_call 58; refine HA.out.mono ?_; rintro e w' ⟨rfl, rfl⟩)
  go_ret
  exact ⟨rfl, rfl⟩
theorem write_nil (name s : ByteArray) (w : World) : Calls Tryz.prog 31 #[.pointer none, .string name, .string s] w fun e w' => e = .returned (.int .i64 7) ∧ w' = w := by
  go_enter Tryz.func31, Tryz.ntmps31
  go_wp2_with (go_at_call 58; refine (able_nil name _).mono ?_; rintro e w' ⟨rfl, rfl⟩)
  go_ret
  exact ⟨rfl, rfl⟩
theorem write_put (base K d : Nat) (S : WD) (name s : ByteArray) (w : World) (h : DiskAt Tryz.prog M base K d w S) (hbase : base ≤ w.heap.size) (hs : name.size ≤ maxLen) (ha : ableOf S.a name.data.toList = 0) (r : Int) (R : World → Prop)
    (hput : ∀ (F : WF) w1, OpenAt base K w1 S F name → F.a = S.a.fileOf name.data.toList → Below w.heap.size w w1 → Calls Tryz.prog 59 #[.pointer (some ⟨d, 0, none⟩), .string name, .pointer (some ⟨F.blk, 0, none⟩), .slice none 0 0, .string s] w1 fun e w' => e = .returned (.int .i64 r) ∧ R w') :
    Calls Tryz.prog 31 #[.pointer (some ⟨d, 0, none⟩), .string name, .string s] w fun e w' => e = .returned (.int .i64 r) ∧ R w' := by
  have HA := hide (able_any base K d S name 0 w h hs ha)
  have HO := hide (open_any base K d S name w h hbase hs (able_ok ha).2)
  have HP := hide hput
  clear h hput
  go_enter Tryz.func31, Tryz.ntmps31
  go_wp2_with (first
    | (go_at_call 58; refine HA.out.mono ?_; rintro e w' ⟨rfl, rfl⟩)
    | (go_at_call 60; refine HO.out.mono ?_; rintro e w1 ⟨F, rfl, hO, hFa, hb⟩)
    | (go_at_call 59; refine (HP.out F _ hO hFa (by exact hb)).mono ?_; rintro e w3 ⟨rfl, hR⟩))
  go_ret
  exact ⟨rfl, hR⟩
end Go.Proofs.YtoineobjmllicaaGreatDoor
