/- Several texts in one: ImageSame, ImageDirs, MoveFew. -/
import Derived.Test.YtnbhchdaobimmaaGreatDoorRunAH
import Derived.Test.YtnbhchdaobimmaaGreatDoorRowOpens
import Derived.Test.YtnbhchdaobimmaaGreatDoorOpAll
import Derived.Test.YtnbhchdaobimmaaGreatDoorRowsAll
/- The image that is gathered and then sorted is the document's; no program text is named here. -/
namespace Go.Img
open Go.RowKit Go.Names
open Go.Mov hiding fold
/-- The document's image, out of order. -/
def docL (T : Ths) : Nat → Int → List UInt8 → List Fi
 | 0, _, _ => []
 | n + 1, k, f => (named f (kidsOf T k)).flatMap fun y => y :: if y.dir then docL T n y.id y.path else []
theorem foldl_perm : ∀ (r l : List Fi), (r.foldl insF l).Perm (r ++ l)
 | [], l => List.Perm.refl _
 | f :: r, l => by
  rw [List.foldl_cons]
  refine (foldl_perm r (insF l f)).trans ?_
  refine ((insF_perm l f).append_left r).trans ?_
  exact List.perm_middle
theorem docOf_perm (T : Ths) : ∀ (n : Nat) (k : Int) (f : List UInt8), (docOf T n k f).Perm (docL T n k f)
 | 0, _, _ => List.Perm.refl _
 | n + 1, k, f => by
  show ((named f (kidsOf T k)).foldl (fun out y => if y.dir then (docOf T n y.id y.path).foldl insF (insF out y) else insF out y) []).Perm ((named f (kidsOf T k)).flatMap fun y => y :: if y.dir then docL T n y.id y.path else [])
  suffices H : ∀ (xs out : List Fi), (xs.foldl (fun out y => if y.dir then (docOf T n y.id y.path).foldl insF (insF out y) else insF out y) out).Perm (out ++ xs.flatMap fun y => y :: if y.dir then docL T n y.id y.path else []) by
   simpa using H (named f (kidsOf T k)) []
  intro xs
  induction xs with
  | nil => intro out; simp
  | cons z r ih =>
   intro out
   rw [List.foldl_cons, List.flatMap_cons]
   refine (ih _).trans ?_
   rw [← List.append_assoc]
   refine List.Perm.append_right _ ?_
   cases hd : z.dir with
   | true =>
    rw [if_pos rfl, if_pos rfl]
    refine (foldl_perm _ _).trans ?_
    refine ((docOf_perm T n z.id z.path).append (insF_perm out z)).trans ?_
    refine List.perm_append_comm.trans ?_
    rw [List.cons_append]
    exact List.perm_middle.symm
   | false =>
    rw [if_neg (by decide), if_neg (by decide)]
    refine (insF_perm out z).trans ?_
    exact (List.perm_append_comm (l₁ := out) (l₂ := [z])).symm
theorem docL_met {T : Ths} : ∀ (n : Nat) (k : Int) (f : List UInt8) (y : Fi), y ∈ docL T n k f → Met T k f y
 | 0, _, _, _, h => by cases h
 | n + 1, k, f, y, h => by
  unfold docL at h
  obtain ⟨z, hz, h⟩ := List.mem_flatMap.1 h
  rcases List.mem_cons.1 h with rfl | h
  ·exact .here hz
  ·split at h
   ·exact .deep hz (docL_met n z.id z.path y h)
   ·cases h
theorem nodup_of {l : List Fi} (h : (l.map (·.id)).Nodup) : l.Nodup := by
 rw [List.nodup_iff_pairwise_ne, List.pairwise_map] at h
 rw [List.nodup_iff_pairwise_ne]
 exact h.imp fun h e => h (by rw [e])
theorem named_ne {T : Ths} (hl : T.length ≤ 900) {k : Int} {f : List UInt8} {z : Fi} (hz : z ∈ named f (kidsOf T k)) : z.path ≠ [] := by
 have := named_long (Nat.le_trans (List.length_filter_le _ _) hl) hz
 intro e
 rw [e] at this
 simp at this
/-- What is met stands below one alone. -/
theorem under_once {T : Ths} (hl : T.length ≤ 900) {k : Int} {f : List UInt8} {z z' y : Fi} (hz : z ∈ named f (kidsOf T k)) (hz' : z' ∈ named f (kidsOf T k)) (h : y = z ∨ Met T z.id z.path y) (h' : y = z' ∨ Met T z'.id z'.path y) : z = z' := by
 have hkl : ((kidsOf T k).map nameOf).length ≤ 900 := by rw [List.length_map]; exact Nat.le_trans (List.length_filter_le _ _) hl
 have A : ∀ {z : Fi}, z ∈ named f (kidsOf T k) → (y = z ∨ Met T z.id z.path y) → ∃ p ∈ (kidsOf T k).zip (asg ((kidsOf T k).map nameOf)), z = ⟨head f ++ p.2, p.1.dir, p.1.id, p.1.dg, p.1.size⟩ ∧ ∃ r, (r = [] ∨ ∃ q, r = 47 :: q) ∧ y.path = head f ++ (p.2 ++ r) := by
  intro z hz h
  have hne := named_ne hl hz
  obtain ⟨p, hp, rfl⟩ := named_at hz
  rcases h with rfl | h
  ·exact ⟨p, hp, rfl, [], .inl rfl, by simp⟩
  ·obtain ⟨r, hr⟩ := met_head h
   dsimp only at hr hne
   exact ⟨p, hp, rfl, 47 :: r, .inr ⟨r, rfl⟩, by rw [hr, head_ne hne]; simp⟩
 obtain ⟨p, hp, rfl, r, hr, e⟩ := A hz h
 obtain ⟨q, hq, rfl, s, hs, e2⟩ := A hz' h'
 have hf : fold y.path = fold y.path := rfl
 conv at hf => lhs; rw [e]
 rw [e2] at hf
 simp only [fold_append] at hf
 have hf := List.append_cancel_left hf
 have sl : ∀ {r : List UInt8}, (r = [] ∨ ∃ q, r = 47 :: q) → (fold r = [] ∨ ∃ q, fold r = 47 :: q) := by
  rintro r (rfl | ⟨q, rfl⟩)
  ·exact .inl rfl
  ·exact .inr ⟨fold q, by unfold fold; rw [List.map_cons]; congr 1⟩
 have := cut_slash (slash_no (asg_legal _ hkl p.2 (List.of_mem_zip hp).2)) (slash_no (asg_legal _ hkl q.2 (List.of_mem_zip hq).2)) (sl hr) (sl hs) hf
 rw [zip_once (asg_nodup _) hp hq this.1]
theorem docL_nodup {T : Ths} (h : Fine T) (hl : T.length ≤ 900) : ∀ (n : Nat) (k : Int) (f : List UInt8), (docL T n k f).Nodup
 | 0, _, _ => List.nodup_nil
 | n + 1, k, f => by
  unfold docL
  have hnd : (named f (kidsOf T k)).Nodup := nodup_of (named_nodup h.rises f k)
  have hsub : ∀ {z y : Fi}, y ∈ (z :: if z.dir then docL T n z.id z.path else []) → y = z ∨ Met T z.id z.path y := by
   intro z y hy
   rcases List.mem_cons.1 hy with rfl | hy
   ·exact .inl rfl
   ·split at hy
    ·exact .inr (docL_met n z.id z.path y hy)
    ·cases hy
  rw [List.nodup_iff_pairwise_ne, List.pairwise_flatMap]
  refine ⟨fun z hz => ?_, ?_⟩
  ·rw [← List.nodup_iff_pairwise_ne]
   refine List.nodup_cons.2 ⟨fun hy => ?_, ?_⟩
   ·split at hy
    ·obtain ⟨r, hr⟩ := met_head (docL_met n z.id z.path z hy)
     rw [head_ne (named_ne hl hz)] at hr
     have := congrArg List.length hr
     simp at this
    ·cases hy
   ·split
    ·exact docL_nodup h hl n z.id z.path
    ·exact List.nodup_nil
  ·have : List.Pairwise (fun a b => a ≠ b ∧ a ∈ named f (kidsOf T k) ∧ b ∈ named f (kidsOf T k)) (named f (kidsOf T k)) := by
    rw [List.pairwise_iff_forall_sublist]
    intro a b hab
    have hm := hab.subset
    have := (List.nodup_iff_pairwise_ne.1 (hnd.sublist hab))
    simp at this
    exact ⟨this, hm (by simp), hm (by simp)⟩
   refine this.imp ?_
   rintro a b ⟨hne, ha, hb⟩ x hx y hy e
   subst e
   exact hne (under_once hl ha hb (hsub hx) (hsub hy))
/-- In order: nothing is ahead of what stands before it. -/
def Srt (l : List Fi) : Prop := l.Pairwise fun a b => ltF b a = false
theorem srt_insF {l : List Fi} (h : Srt l) (f : Fi) : Srt (insF l f) := by
 unfold insF
 have hl : l.takeWhile (fun x => ltF x f) ++ l.dropWhile (fun x => ltF x f) = l := List.takeWhile_append_dropWhile
 have h1 : Srt (l.takeWhile (fun x => ltF x f) ++ l.dropWhile (fun x => ltF x f)) := by rw [hl]; exact h
 obtain ⟨ha, hb, hab⟩ := List.pairwise_append.1 h1
 have hbf : ∀ b ∈ l.dropWhile (fun x => ltF x f), ltF b f = false := by
  intro b hb'
  cases hd : l.dropWhile (fun x => ltF x f) with
  | nil => rw [hd] at hb'; cases hb'
  | cons c r =>
   have hc : ltF c f = false := by
    have := List.head?_dropWhile_not (fun x => ltF x f) l
    rw [hd] at this
    simpa using this
   rw [hd] at hb' hb
   rcases List.mem_cons.1 hb' with rfl | hb'
   ·exact hc
   ·exact swoF.ntrans b c f ((List.pairwise_cons.1 hb).1 b hb') hc
 have haf : ∀ a ∈ l.takeWhile (fun x => ltF x f), ltF f a = false := by
  intro a ha'
  have h2 : ltF a f = true := by
   have := List.all_takeWhile (p := fun x => ltF x f) (l := l)
   exact List.all_eq_true.1 this a ha'
  cases e : ltF f a with
  | false => rfl
  | true =>
   have := swoF.trans a f a h2 e
   rw [swoF.irrefl] at this
   cases this
 refine List.pairwise_append.2 ⟨ha, List.pairwise_cons.2 ⟨hbf, hb⟩, fun a ha' b hb' => ?_⟩
 rcases List.mem_cons.1 hb' with rfl | hb'
 ·exact haf a ha'
 ·exact hab a ha' b hb'
theorem srt_foldl : ∀ (r : List Fi) {l : List Fi}, Srt l → Srt (r.foldl insF l)
 | [], _, h => h
 | f :: r, _, h => by rw [List.foldl_cons]; exact srt_foldl r (srt_insF h f)
theorem srt_doc (T : Ths) : ∀ (n : Nat) (k : Int) (f : List UInt8), Srt (docOf T n k f)
 | 0, _, _ => List.Pairwise.nil
 | n + 1, k, f => by
  show Srt ((named f (kidsOf T k)).foldl (fun out y => if y.dir then (docOf T n y.id y.path).foldl insF (insF out y) else insF out y) [])
  suffices H : ∀ (xs out : List Fi), Srt out → Srt (xs.foldl (fun out y => if y.dir then (docOf T n y.id y.path).foldl insF (insF out y) else insF out y) out) from H _ _ List.Pairwise.nil
  intro xs
  induction xs with
  | nil => intro out h; exact h
  | cons z r ih =>
   intro out h
   rw [List.foldl_cons]
   refine ih _ ?_
   split
   ·exact srt_foldl _ (srt_insF h z)
   ·exact srt_insF h z
/-- Two orders of the same files, of unlike paths, are one. -/
theorem srt_one : ∀ {l r : List Fi}, Srt l → Srt r → l.Perm r → (∀ x ∈ l, ∀ y ∈ l, x.path = y.path → x = y) → l = r
 | [], r, _, _, hp, _ => (List.Perm.eq_nil hp.symm).symm
 | a :: l, r, hl, hr, hp, hu => by
  cases r with
  | nil => exact List.Perm.eq_nil hp
  | cons b r =>
   have hl' := List.pairwise_cons.1 hl
   have hr' := List.pairwise_cons.1 hr
   have hb : b ∈ a :: l := hp.mem_iff.2 (by simp)
   have ha : a ∈ b :: r := hp.mem_iff.1 (by simp)
   have e : a = b := by
    rcases List.mem_cons.1 hb with h | h
    ·exact h.symm
    ·rcases List.mem_cons.1 ha with h2 | h2
     ·exact h2
     ·have h3 := hl'.1 b h
      have h4 := hr'.1 a h2
      refine hu a (by simp) b (by simp [h]) ?_
      unfold ltF cmpF at h3 h4
      rw [decide_eq_false_iff_not] at h3 h4
      rcases cmpP_one a.path b.path with e | e | e
      ·omega
      ·exact cmpP_eq e
      ·rw [cmpP_swap a.path b.path] at h3; omega
   subst e
   rw [srt_one hl'.2 hr'.2 (List.perm_cons a |>.1 hp) fun x hx y hy => hu x (by simp [hx]) y (by simp [hy])]
/-- The image. -/
def img (T : Ths) : List Fi := docOf T 240 0 []
/-- What the program gathers, sorted, is the document's image. -/
theorem img_is {T : Ths} (h : Fine T) (hd : Dirs T) (hl : T.length ≤ 900) {l l' : List Fi} (hg : Gw T l.length l) (hc : Cl T l.length l) (hp : l'.Perm l) (hs : Srt l') : l' = img T := by
 have hnd : l.Nodup := nodup_of hg.once
 have hn2 : (docOf T 240 0 []).Nodup := (docOf_perm T 240 0 []).nodup_iff.2 (docL_nodup h hl 240 0 [])
 have hm : ∀ y, y ∈ l ↔ y ∈ docOf T 240 0 [] := fun y => hc.all.trans (doc_met h hd hl 240 0 [] (by simp) (by simp) y).symm
 have hpd : l.Perm (docOf T 240 0 []) := (List.perm_ext_iff_of_nodup hnd hn2).2 hm
 refine srt_one hs (srt_doc T 240 0 []) (hp.trans hpd) fun x hx y hy e => ?_
 exact met_once hl (hc.met x (hp.mem_iff.1 hx)) (hc.met y (hp.mem_iff.1 hy)) (by rw [e])
end Go.Img
/- In a tree of operations nothing stands below what is no folder; no program text is named here. -/
namespace Go.Img
open Go.RowKit Go.Mov Go.Opn
theorem fold_dir {T : Ths} {k : Int} (h : Mov.fold T k = true) : k = 0 ∨ ∃ y ∈ T, y.id = k ∧ y.dir = true := by
 unfold Mov.fold at h
 simp only [Bool.or_eq_true, beq_iff_eq] at h
 rcases h with h | h
 ·exact .inl h
 ·cases e : Mov.look T k with
  | none => rw [e] at h; cases h
  | some y => rw [e] at h; exact .inr ⟨y, (look_mem e).1, (look_mem e).2, h⟩
theorem now_dirs {n : Nat} {T : Ths} (hd : Dirs T) {o : Ob} {x : Th} (h : Mov.now n T o = some x) : (x.par = 0 ∨ x.par = 1 ∨ ∃ y ∈ T, y.id = x.par ∧ y.dir = true) ∧ ∀ y, Mov.look T x.id = some y → y.dir = x.dir := by
 unfold Mov.now at h
 split at h
 ·split at h
  ·rename_i hc
   cases h
   simp only [Bool.and_eq_true, Option.isNone_iff_eq_none] at hc
   refine ⟨?_, fun y hy => ?_⟩
   ·rcases fold_dir hc.2 with e | e
    ·exact .inl e
    ·exact .inr (.inr e)
   ·dsimp only at hy
    rw [hc.1.1] at hy
    cases hy
  ·cases h
 ·split at h
  ·split at h
   ·rename_i y hy
    split at h
    ·rename_i hc
     cases h
     simp only [Bool.and_eq_true] at hc
     have hid := (look_mem hy).2
     refine ⟨?_, fun z hz => ?_⟩
     ·rcases fold_dir hc.1 with e | e
      ·exact .inl e
      ·exact .inr (.inr e)
     ·dsimp only at hz
      rw [hid, hy] at hz
      cases hz
      rfl
    ·cases h
   ·cases h
  ·split at h
   ·split at h
    ·rename_i y hy
     cases h
     have hid := (look_mem hy).2
     refine ⟨.inr (.inl rfl), fun z hz => ?_⟩
     dsimp only at hz
     rw [hid, hy] at hz
     cases hz
     rfl
    ·cases h
   ·split at h
    ·split at h
     ·rename_i y hy
      split at h
      ·cases h
       have hm := look_mem hy
       refine ⟨hd y hm.1, fun z hz => ?_⟩
       dsimp only at hz
       rw [hm.2, hy] at hz
       cases hz
       rfl
      ·cases h
     ·cases h
    ·cases h
theorem dirs_put {T : Ths} (h : Fine T) (hd : Dirs T) {x : Th} (hp : x.par = 0 ∨ x.par = 1 ∨ ∃ y ∈ T, y.id = x.par ∧ y.dir = true) (hk : ∀ y, Mov.look T x.id = some y → y.dir = x.dir) : Dirs (Mov.put T x) := by
 have hin : ∀ {k : Int}, (∃ y ∈ T, y.id = k ∧ y.dir = true) → ∃ y ∈ Mov.put T x, y.id = k ∧ y.dir = true := by
  rintro k ⟨y, hy, e, hdir⟩
  by_cases ex : y.id = x.id
  ·have hl := look_of_mem h.rises hy
   rw [ex] at hl
   exact ⟨x, (mem_put h.rises).2 (.inl rfl), ex.symm.trans e, by rw [← hk y hl]; exact hdir⟩
  ·exact ⟨y, (mem_put h.rises).2 (.inr ⟨hy, ex⟩), e, hdir⟩
 intro z hz
 rcases (mem_put h.rises).1 hz with rfl | ⟨hz, _⟩
 ·exact hp.imp id (Or.imp id hin)
 ·exact (hd z hz).imp id (Or.imp id hin)
theorem dirs_made {T : Ths} (h : Fine T) (hd : Dirs T) (o : Ob) : Dirs (Mov.made T o) := by
 unfold Mov.made
 split
 ·rename_i x hx
  have := now_dirs hd hx
  exact dirs_put h hd this.1 this.2
 ·exact hd
theorem dirs_ths : ∀ (l : List En) {T : Ths}, Fine T → Dirs T → (∀ e ∈ l, e.Fits) → Dirs (ths T l)
 | [], _, _, hd, _ => hd
 | e :: r, T, h, hd, hf => dirs_ths r (h.made (hf e (by simp)).1) (dirs_made h hd e.op) fun x hx => hf x (by simp [hx])
theorem Dirs.nil : Dirs [] := fun x hx => by cases hx
end Go.Img
/- Contract: operations that may be, not too many. -/
namespace Go.Mov
open Go.RowKit Go.Rws
theorem cells10l {w : World} {g o : Nat} {e : Le} (h : w.rangeAt g o e.cs) : w.cell? ⟨g, o, none⟩ = some (.int .i64 e.op.kind) ∧ w.cell? ⟨g, o + 1, none⟩ = some (.int .u64 e.op.tm.c) ∧ w.cell? ⟨g, o + 2, none⟩ = some (.int .i64 e.op.tm.k) ∧ w.cell? ⟨g, o + 3, none⟩ = some (.int .u64 e.op.thing) ∧ w.cell? ⟨g, o + 4, none⟩ = some (.int .u64 e.op.par) ∧ w.cell? ⟨g, o + 5, none⟩ = some (.string e.op.name) ∧ w.cell? ⟨g, o + 6, none⟩ = some (.bool e.op.dir) ∧ w.cell? ⟨g, o + 7, none⟩ = some (.string e.op.dg) ∧ w.cell? ⟨g, o + 8, none⟩ = some (.int .i64 e.op.size) ∧ w.cell? ⟨g, o + 9, none⟩ = some (.int .u8 (e.h.toNat : Nat)) :=
 ⟨h 0 _ rfl, h 1 _ rfl, h 2 _ rfl, h 3 _ rfl, h 4 _ rfl, h 5 _ rfl, h 6 _ rfl, h 7 _ rfl, h 8 _ rfl, h 9 _ rfl⟩
/-- Operations that may be. -/
def Right (ks : List Le) : Prop := (∀ e ∈ ks, e.Fits ∧ e.op.chk = 0) ∧ ks.length ≤ 60
end Go.Mov
namespace Go.Proofs.YtnbhchdaobimmaaGreatDoor
open Go.RowKit Go.Opn Go.Stamp Go.MapInt Go.Mov Go.Shelf Go.Rws
attribute [local go_sem] Oper.semAt_some
abbrev Lr := OwnR Le.cs 10 63
end Go.Proofs.YtnbhchdaobimmaaGreatDoor
