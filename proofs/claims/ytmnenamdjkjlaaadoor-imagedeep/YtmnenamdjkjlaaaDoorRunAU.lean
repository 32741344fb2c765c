/- Several texts in one: ImageAwake, NameParts, NameRefPath, ImageBefDoc. -/
import Derived.Test.YtmnenamdjkjlaaaDoorImageOf
import Derived.Test.YtmnenamdjkjlaaaDoorRunAP
import Derived.Lib.LastIndexByte
import Derived.Test.YtmnenamdjkjlaaaDoorRunAQ
import Derived.Laws.OwnMore
import Derived.Test.YtmnenamdjkjlaaaDoorRunAR
import Derived.Test.YtmnenamdjkjlaaaDoorRunAT
/- Contract: the law's own look whether an image answers. -/
namespace Go.Img
open Go.RowKit Go.Opn
open Go.Mov hiding fold
theorem now_name {n : Nat} {T : Ths} {o : Ob} {x : Th} (h : Mov.now n T o = some x) : x.name = o.name ∨ ∃ y ∈ T, x.name = y.name := by
  unfold Mov.now at h
  split at h
  · split at h
    · cases h; exact .inl rfl
    · cases h
  · split at h
    · split at h
      · rename_i y hy
        split at h
        · cases h; exact .inl rfl
        · cases h
      · cases h
    · split at h
      · split at h
        · rename_i y hy
          cases h
          exact .inr ⟨y, (look_mem hy).1, rfl⟩
        · cases h
      · split at h
        · split at h
          · rename_i y hy
            split at h
            · cases h
              exact .inr ⟨y, (look_mem hy).1, rfl⟩
            · cases h
          · cases h
        · cases h
theorem names_made {T : Ths} (hr : Rises T) {K : Nat} (hT : ∀ x ∈ T, x.name.size ≤ K) {o : Ob} (ho : o.name.size ≤ K) : ∀ x ∈ Mov.made T o, x.name.size ≤ K := by
  unfold Mov.made
  split
  · rename_i x hx
    intro z hz
    rcases (mem_put hr).1 hz with rfl | ⟨hz, _⟩
    · rcases now_name hx with e | ⟨y, hy, e⟩
      · rw [e]; exact ho
      · rw [e]; exact hT y hy
    · exact hT z hz
  · exact hT
theorem names_ths {K : Nat} : ∀ (l : List En) {T : Ths}, Fine T → (∀ x ∈ T, x.name.size ≤ K) → (∀ e ∈ l, e.Fits ∧ e.op.name.size ≤ K) → ∀ x ∈ ths T l, x.name.size ≤ K
  | [], _, _, hT, _ => hT
  | e :: r, T, h, hT, hl => names_ths r (h.made (hl e (by simp)).1.1) (names_made h.rises hT (hl e (by simp)).2) fun x hx => hl x (by simp [hx])
def twoE (i : Int) : En := ⟨⟨1, ⟨i, 0⟩, 16 * i, 0, ⟨#[97]⟩, false, ⟨#[]⟩, 0⟩, ⟨#[]⟩⟩
def twoT : Ths := ths [] (addsU [twoE 1, twoE 2]).1
theorem two_fits {i : Int} (h1 : 1 ≤ i) (h2 : i ≤ 2) : (twoE i).Fits :=
  ⟨⟨by show _ ≤ (1 : Int) ∧ (1 : Int) ≤ _; decide, ⟨by show (0 : Int) ≤ i; omega, by show i ≤ _; omega, by show _ ≤ (0 : Int); decide, by show (0 : Int) ≤ _; decide⟩, ⟨by show (0 : Int) ≤ 16 * i; omega, by show 16 * i ≤ _; omega⟩, ⟨by show (0 : Int) ≤ 0; decide, by show (0 : Int) ≤ _; decide⟩, by show (1 : Nat) ≤ _; decide, by show (0 : Nat) ≤ _; decide, by show _ ≤ (0 : Int) ∧ (0 : Int) ≤ _; decide⟩, by show (0 : Nat) ≤ _; decide⟩
theorem two_img : (img twoT).map (fun f => (f.path, f.id)) = [([97], 16), ([97, 126, 49], 32)] := by decide +kernel
end Go.Img
namespace Go.Proofs.YtmnenamdjkjlaaaDoor
open Go.RowKit Go.Img Go.Shelf Go.Rws Go.MapInt Go.Opn
open Go.Mov hiding fold
attribute [local go_sem] Oper.semAt_some
set_option maxHeartbeats 4000000 in
set_option maxRecDepth 100000 in
theorem awake15_any (w : World) (hv : Vt w) : Calls Tryd.prog 5 #[] w fun r w' => r = .returned (.bool true) ∧ Below w.heap.size w w' := by
  have HN := hide (newTw_any w)
  have HV := hide hv
  clear hv
  go_enter Tryd.func5, Tryd.ntmps5
  go_upto_region 2 with (go_at_call 4; refine HN.out.mono ?_; rintro r w1 ⟨b, rfl, I1⟩; replace I1 := hide I1; clear HN)
  have HA1 : Hid (Calls Tryd.prog 6 #[.pointer (some ⟨b, 0, none⟩), .agg #[.int .i64 1, .int .u64 1, .int .i64 0, .int .u64 16, .int .u64 0, .string ⟨#[97]⟩, .bool false, .string ⟨#[]⟩, .int .i64 0, .string ⟨#[]⟩]] w1 fun r w' => r = .returned (.bool true) ∧ Tw w b (fun _ => False) (addsU [twoE 1]).1 (addsU [twoE 1]).2 w') := by
    refine (addTw_any (twoE 1) I1.out (two_fits (by decide) (by decide)) (by decide) ⟨by decide, by decide⟩).mono ?_
    rintro r w' ⟨rfl, h1, _, _⟩
    exact ⟨rfl, h1⟩
  go_upto_region 3 with (go_at_call 6; refine HA1.out.mono ?_; rintro r w2 ⟨rfl, I2⟩; replace I2 := hide I2; clear HA1 I1)
  have HA2 : Hid (Calls Tryd.prog 6 #[.pointer (some ⟨b, 0, none⟩), .agg #[.int .i64 1, .int .u64 2, .int .i64 0, .int .u64 32, .int .u64 0, .string ⟨#[97]⟩, .bool false, .string ⟨#[]⟩, .int .i64 0, .string ⟨#[]⟩]] w2 fun r w' => r = .returned (.bool true) ∧ Tw w b (fun _ => False) (addsU [twoE 1, twoE 2]).1 (addsU [twoE 1, twoE 2]).2 w') := by
    refine (addTw_any (twoE 2) I2.out (two_fits (by decide) (by decide)) (by decide) ⟨by decide, by decide⟩).mono ?_
    rintro r w' ⟨rfl, h1, _, _⟩
    exact ⟨rfl, h1⟩
  go_upto_region 4 with (go_at_call 6; refine HA2.out.mono ?_; rintro r w3 ⟨rfl, I3⟩; replace I3 := hide I3; clear HA2 I2)
  obtain ⟨mb, hT⟩ := I3.out.ths
  have hfit : ∀ e ∈ (addsU [twoE 1, twoE 2]).1, e.Fits := I3.out.fits
  have hnm : ∀ e ∈ (addsU [twoE 1, twoE 2]).1, e.Fits ∧ e.op.name.size ≤ 1000000 := fun e he => ⟨hfit e he, by
    have : e = twoE 1 ∨ e = twoE 2 := by
      have e9 : (addsU [twoE 1, twoE 2]).1 = [twoE 1, twoE 2] := by rfl
      rw [e9] at he
      simpa using he
    rcases this with rfl | rfl <;> decide⟩
  have HO := hide (of_any w3 (HV.out.below HV.out.size I3.out.k) hT (ths_fine Fine.nil hfit) (dirs_ths _ Fine.nil Dirs.nil hfit) (by decide) (names_ths _ Fine.nil (fun x hx => by cases hx) hnm))
  have HK := hide I3.out.k
  clear hT hfit hnm I3
  go_upto_region 5 with (go_at_call 7; refine HO.out.mono ?_; rintro r w4 ⟨v, rfl, ho⟩; replace HO := hide ho; clear ho)
  have hlen : (img (ths [] (addsU [twoE 1, twoE 2]).1)).length = 2 := by have := congrArg List.length two_img; simpa [twoT] using this
  have hR := HO.out.rows Fi.cs_length
  obtain ⟨f0, f1, hfs⟩ : ∃ f0 f1, img (ths [] (addsU [twoE 1, twoE 2]).1) = [f0, f1] := by
    match h : img (ths [] (addsU [twoE 1, twoE 2]).1), hlen with
    | [a, b], _ => exact ⟨a, b, rfl⟩
  have htwo := two_img
  unfold twoT at htwo
  rw [hfs] at htwo
  rw [hfs] at hR
  simp only [List.map_cons, List.map_nil, List.cons.injEq, Prod.mk.injEq, and_true] at htwo
  obtain ⟨⟨p0, i0⟩, p1, i1⟩ := htwo
  obtain ⟨g, off, cap, hv, hgl, hcap, hrg⟩ : ∃ g off cap, v = .slice (some ⟨g, off, none⟩) 2 cap ∧ g < w4.heap.size ∧ 2 ≤ cap ∧ ∀ i x, [f0, f1][i]? = some x → w4.rangeAt g (off + i * 5) (Fi.cs x) := by
    rcases hR with ⟨_, h⟩ | h
    · cases h
    · exact h
  subst hv
  have c0 := (cells5f (hrg 0 f0 rfl)).1
  have c1 := (cells5f (hrg 1 f1 rfl)).1
  have c2 := (cells5f (hrg 1 f1 rfl)).2.2.1
  rw [p0] at c0
  rw [p1] at c1
  rw [i1] at c2
  simp only [Nat.zero_mul, Nat.one_mul, Nat.add_zero] at c0 c1 c2
  have hcI : (2 : Int) ≤ cap := by omega
  have HB := hide (HK.out.trans (HO.out.below.mono HK.out.size))
  clear hrg hR hfs hlen hcap hgl p0 i0 p1 i1 HO
  go_wp2
  go_ret
  exact ⟨rfl, HB.out⟩
end Go.Proofs.YtmnenamdjkjlaaaDoor
/- Paths: the parts of a text between /, and where the last / stands; of no program. -/
namespace Go.Names
open Go.RowKit
/-- The parts of a text, between /. -/
def parts : Bs → List Bs
  | [] => [[]]
  | c :: l => if c = 47 then [] :: parts l else match parts l with
    | p :: ps => (c :: p) :: ps
    | [] => [[c]]
theorem parts_ne : ∀ l, parts l ≠ []
  | [] => by simp [parts]
  | c :: l => by
    unfold parts
    split
    · simp
    · split <;> simp
theorem parts_none : ∀ {l : Bs}, 47 ∉ l → parts l = [l]
  | [], _ => rfl
  | c :: l, h => by
    have h1 : c ≠ 47 := fun e => h (by simp [e])
    have h2 := parts_none (l := l) (fun e => h (by simp [e]))
    unfold parts
    rw [if_neg h1, h2]
theorem parts_cut : ∀ {l : Bs} {i : Nat}, Lib.indexByte l 47 = i → parts l = l.take i :: parts (l.drop (i + 1))
  | [], i, h => by simp [Lib.indexByte] at h
  | c :: l, i, h => by
    unfold Lib.indexByte at h
    by_cases hc : c = 47
    · subst hc
      simp at h
      obtain rfl : i = 0 := by omega
      simp [parts]
    · have hc' : (c == 47) = false := by simpa using hc
      simp only [hc', Bool.false_eq_true, if_false] at h
      by_cases h3 : Lib.indexByte l 47 = -1
      · simp [h3] at h
      · have h4 : (Lib.indexByte l 47 == -1) = false := by simpa using h3
        simp only [h4, Bool.false_eq_true, if_false] at h
        obtain ⟨k, rfl⟩ : ∃ k, i = k + 1 := ⟨i - 1, by have := Lib.indexByte_ge l 47; omega⟩
        have ih := parts_cut (l := l) (i := k) (by omega)
        conv => lhs; unfold parts
        rw [if_neg hc, ih]
        rfl
theorem parts_snoc_cut : ∀ (l : Bs), parts (l ++ [47]) = parts l ++ [[]]
  | [] => rfl
  | c :: l => by
    have ih := parts_snoc_cut l
    show parts (c :: (l ++ [47])) = parts (c :: l) ++ [[]]
    unfold parts
    by_cases hc : c = 47
    · rw [if_pos hc, if_pos hc, ih]; rfl
    · rw [if_neg hc, if_neg hc, ih]
      cases h : parts l with
      | nil => exact absurd h (parts_ne l)
      | cons p ps => rfl
/-- One more byte behind the last part. -/
def more1 (c : UInt8) : List Bs → List Bs
  | [] => []
  | [p] => [p ++ [c]]
  | p :: q :: ps => p :: more1 c (q :: ps)
theorem more1_cons {c : UInt8} {p : Bs} {ps : List Bs} (h : ps ≠ []) : more1 c (p :: ps) = p :: more1 c ps := by
  cases ps with
  | nil => exact absurd rfl h
  | cons q ps => rfl
theorem parts_snoc : ∀ (l : Bs) {c : UInt8}, c ≠ 47 → parts (l ++ [c]) = more1 c (parts l)
  | [], c, h => by simp [parts, more1, h]
  | d :: l, c, h => by
    have ih := parts_snoc l h
    show parts (d :: (l ++ [c])) = more1 c (parts (d :: l))
    unfold parts
    by_cases hd : d = 47
    · rw [if_pos hd, if_pos hd, ih, more1_cons (parts_ne l)]
    · rw [if_neg hd, if_neg hd, ih]
      cases h2 : parts l with
      | nil => exact absurd h2 (parts_ne l)
      | cons p ps =>
        cases ps with
        | nil => rfl
        | cons q qs => rfl
theorem more1_at : ∀ {P : List Bs} {k : Nat} {c : UInt8} {p : Bs}, P.length = k + 1 → P[k]? = some p → more1 c P = P.set k (p ++ [c])
  | [], k, c, p, h, _ => by simp at h
  | [q], k, c, p, h, hp => by
    obtain rfl : k = 0 := by simpa using h.symm
    simp at hp
    subst hp
    rfl
  | q :: r :: P, k, c, p, h, hp => by
    obtain ⟨j, rfl⟩ : ∃ j, k = j + 1 := ⟨k - 1, by simp at h; omega⟩
    have := more1_at (P := r :: P) (k := j) (c := c) (p := p) (by simpa using h) (by simpa using hp)
    show q :: more1 c (r :: P) = _
    rw [this]
    rfl
theorem parts_length : ∀ (l : Bs), (parts l).length ≤ l.length + 1
  | [] => by simp [parts]
  | c :: l => by
    have ih := parts_length l
    unfold parts
    split
    · simp; omega
    · split
      · rename_i h; rw [h] at ih; simp at ih ⊢; omega
      · simp
/-- What may be a path. -/
def pathB (l : Bs) : Bool := decide (l.length ≤ 238) && (parts l).all legal
theorem parts_le : ∀ (l : Bs), ∀ p ∈ parts l, p.length ≤ l.length
  | [], p, h => by simp [parts] at h; simp [h]
  | c :: l, p, h => by
    have ih := parts_le l
    unfold parts at h
    split at h
    · rcases List.mem_cons.1 h with rfl | h
      · simp
      · have := ih p h; simp; omega
    · split at h
      · rename_i q qs e
        rw [e] at ih
        rcases List.mem_cons.1 h with rfl | h
        · have := ih q (by simp); simp; omega
        · have := ih p (by simp [h]); simp; omega
      · rw [List.mem_singleton.1 h]; simp
/-- A text, cut at its last /. -/
def lastTo (s : ByteArray) : Nat → Option Nat
  | 0 => none
  | k + 1 => if ((s.data[k]!).toNat : Int) = 47 then some k else lastTo s k
theorem lastIdx_is (s : ByteArray) : ∀ k, Lib.lastIdx s 47 k = match lastTo s k with | none => -1 | some i => (i : Int)
  | 0 => rfl
  | k + 1 => by
    unfold Lib.lastIdx lastTo
    by_cases h : ((s.data[k]!).toNat : Int) = 47
    · rw [if_pos h, if_pos h]
    · rw [if_neg h, if_neg h, lastIdx_is s k]
theorem lastTo_lt (s : ByteArray) : ∀ k i, lastTo s k = some i → i < k
  | 0, i, h => by cases h
  | k + 1, i, h => by
    unfold lastTo at h
    split at h
    · cases h; omega
    · have := lastTo_lt s k i h; omega
def splitB (s : ByteArray) : ByteArray × ByteArray := match lastTo s s.size with
  | none => (⟨#[]⟩, s)
  | some i => (s.extract 0 i, s.extract (i + 1) s.size)
end Go.Names
/- Contracts: the document's parts of a path, and what may be one. -/
namespace Go.Proofs.YtmnenamdjkjlaaaDoor
open Go.RowKit Go.Names
set_option maxRecDepth 100000 in
theorem Ar.stored {W w : World} {g m c : Nat} {outs : List Bs} (h : Ar W (.slice (some ⟨g, 0, none⟩) m c) outs w) (hm : m = outs.length) (j : Nat) (x : Bs) : Ar W (.slice (some ⟨g, 0, none⟩) m c) (outs.set j x) (w.drew.setCell ⟨g, j, none⟩ (.string ⟨x.toArray⟩)) := by
  subst hm
  have h1 : w.drew.ownsRow W.heap.size 9 1 (.slice (some ⟨g, 0, none⟩) outs.length c) outs.length (strV outs) := h.own
  obtain ⟨h2, h3⟩ := h1.stored j (.string ⟨x.toArray⟩)
  refine ⟨?_, h.below.drew.grown h3 h.below.size fun k e => by cases e; exact (own_at h.own rfl).1⟩
  rw [List.length_set]
  unfold strV at h2 ⊢
  rw [List.map_set]
  exact h2
set_option maxRecDepth 100000 in
theorem Ar.some {W w : World} {a : Option Addr} {m c : Nat} {outs : List Bs} (h : Ar W (.slice a m c) outs w) (hm : 0 < outs.length) : ∃ g, a = .some ⟨g, 0, none⟩ := by
  rcases h.own.2 with ⟨_, h0⟩ | ⟨j, cap, cur, h1, _⟩
  · omega
  · cases h1; exact ⟨j, rfl⟩
set_option maxRecDepth 100000 in
set_option maxHeartbeats 2000000 in
theorem rparts_any (s : ByteArray) (w : World) (hs : s.size ≤ 500) :
    Calls Tryd.prog 18 #[.string s] w fun e w' => ∃ a c, e = .returned (.slice a (parts s.data.toList).length c) ∧ Ar w (.slice a (parts s.data.toList).length c) (parts s.data.toList) w' := by
  have hsz : s.data.toList.length = s.size := by simp
  go_enter Tryd.func18, Tryd.ntmps18
  go_wp2
  go_loopw [3, 4] (fun vo vi wr => ∃ (i g m c : Nat), i ≤ s.size ∧ vo = .slice (some ⟨g, 0, none⟩) m c ∧ vi = .int .i64 i ∧ Hid (m = (parts (s.data.toList.take i)).length ∧ Ar w (.slice (some ⟨g, 0, none⟩) m c) (parts (s.data.toList.take i)) wr)) (fun _ vi _ => 1000 - (intOf vi).toNat)
  case atStart =>
    refine ⟨0, w.heap.size, 1, 1, Nat.zero_le _, rfl, rfl, rfl, ?_, (Below.refl _ w).alloc (Nat.le_refl _) _⟩
    exact RegionOwn.made_one w w.heap.size 9 1 #[.string ⟨#[]⟩] (Nat.le_refl _) rfl
  case round =>
    obtain ⟨i, g, m, c, hi, rfl, rfl, HH⟩ := hrel
    have hm1 : 1 ≤ m := by
      rw [HH.out.1]
      exact List.length_pos_iff.2 (parts_ne _)
    have hm2 : m ≤ 501 := by
      rw [HH.out.1]
      have := parts_length (s.data.toList.take i)
      rw [List.length_take] at this
      omega
    by_cases hlt : i < s.size
    · have hlt' : (i : Int) < s.size := by omega
      have hi1 : (i : Int) + 1 ≤ s.size := by omega
      have hi0 : (i : Int) ≤ i + 1 := by omega
      have htk : s.data.toList.take (i + 1) = s.data.toList.take i ++ [s[i]] := by rw [List.take_add_one, data_get s i hlt]; rfl
      by_cases hc : s[i] = 47
      · have hcn : (s[i].toNat : Int) = 47 := by rw [hc]; rfl
        have hcb : ((s[i].toNat : Int) == 47) = true := by simp [hcn]
        have hnx := parts_snoc_cut (s.data.toList.take i)
        rw [← hc, ← htk] at hnx
        have HN := hide hnx
        clear hnx htk hc
        go_wp2_with (at_builtin; refine HH.out.2.append [] (by rw [← HH.out.1]; omega) rfl _ _ rfl rfl rfl rfl ?_
                     intro a1 c1 w1 h1
                     rw [← HN.out, ← HH.out.1] at h1
                     rw [← HH.out.1]
                     obtain ⟨g1, rfl⟩ := h1.some (List.length_pos_iff.2 (parts_ne _))
                     have H1 := hide h1
                     clear h1)
        go_roundw
        case rel => exact ⟨i + 1, g1, m + 1, c1, by omega, rfl, by go_num, by rw [HN.out, List.length_append, ← HH.out.1]; rfl, H1.out⟩
        case measure => simp [intOf]; omega
      · have hcn : ¬ (s[i].toNat : Int) = 47 := by
          intro e
          have h2 : s[i].toNat = 47 := by omega
          exact hc (UInt8.toNat_inj.1 (h2.trans rfl))
        have hcb : ((s[i].toNat : Int) == 47) = false := beq_eq_false_iff_ne.2 hcn
        have hnx := parts_snoc (s.data.toList.take i) hc
        rw [← htk] at hnx
        obtain ⟨q, rfl⟩ : ∃ q, m = q + 1 := ⟨m - 1, by omega⟩
        obtain ⟨p, hp⟩ : ∃ p, (parts (s.data.toList.take i))[q]? = some p := ⟨_, List.getElem?_eq_getElem (by rw [← HH.out.1]; omega)⟩
        rw [more1_at (k := q) HH.out.1.symm hp] at hnx
        have HN := hide hnx
        have hpr := HH.out.2.reads
        obtain ⟨P, hP⟩ : ∃ P : ByteArray, P = ⟨p.toArray⟩ := ⟨_, rfl⟩
        have hcell : wr.cell? ⟨g, 0 + q, none⟩ = some (.string P) := by
          refine hpr.cell (j := q) ?_
          rw [List.getElem?_map, hp, hP]
          rfl
        rw [Nat.zero_add] at hcell
        have hfz : wr.frozen? ⟨g, q, none⟩ = false := (HH.out.1 ▸ HH.out.2.own).frozenAt q
        have hcellD : wr.drew.cell? ⟨g, q, none⟩ = some (.string P) := hcell
        have hfzD : wr.drew.frozen? ⟨g, q, none⟩ = false := hfz
        have hmc : (q : Int) + 1 ≤ c := by
          have : q + 1 ≤ c := by
            have ho := HH.out.2.own
            rw [← HH.out.1] at ho
            rcases ho.2 with ⟨h1, _⟩ | ⟨_, cap, cur, h1, _, _, h4, _⟩
            · cases h1
            · cases h1; exact h4
          omega
        have hPs : P.size ≤ 500 := by
          rw [hP, ba_size]
          have := parts_le _ p (List.mem_of_getElem? hp)
          rw [List.length_take] at this
          omega
        have hnew : P ++ s.extract i (i + 1) = ⟨(p ++ [s[i]]).toArray⟩ := by
          apply ByteArray.ext
          rw [← Array.toList_inj, hP]
          simp [ByteArray.data_append, ByteArray.data_extract]
          rw [List.take_one, List.head?_drop, data_get s i hlt]
          rfl
        have HX : Hid (Ar w (.slice (some ⟨g, 0, none⟩) (q + 1) c) (parts (s.data.toList.take (i + 1))) (wr.drew.setCell ⟨g, q, none⟩ (.string (P ++ s.extract i (i + 1))))) := by
          show Ar _ _ _ _
          rw [HN.out, hnew]
          exact HH.out.2.stored HH.out.1 q _
        have HL : Hid (q + 1 = (parts (s.data.toList.take (i + 1))).length) := by
          show _ = _
          rw [HN.out, List.length_set]
          exact HH.out.1
        have hq0 : (0 : Int) ≤ q := by omega
        have hq1 : (q : Int) < q + 1 := by omega
        have hex : (s.extract i (i + 1)).size ≤ 1 := by rw [ByteArray.size_extract]; omega
        clear hnew hnx hpr hP hp htk hc HN HH
        go_upto_region 7 with (fail)
        go_region
        go_wp2
        go_roundw
        case rel => exact ⟨i + 1, g, q + 1, c, by omega, rfl, by go_num, HL.out, HX.out⟩
        case measure => simp [intOf]; omega
    · have hlt' : ¬ (i : Int) < s.size := by omega
      have hie : i = s.size := by omega
      have hte : s.data.toList.take i = s.data.toList := by rw [hie, ← hsz, List.take_length]
      obtain ⟨hm, hA⟩ := HH.out
      rw [hte] at hm hA
      subst hm
      have HA := hide hA
      clear hA HH
      go_wp2
      go_ret
      exact ⟨_, _, rfl, HA.out⟩
end Go.Proofs.YtmnenamdjkjlaaaDoor
/- Contract: whether a path is ahead of another one, by the document. -/
namespace Go.Img
open Go.RowKit
theorem pts_parts : ∀ l : List UInt8, pts l = Names.parts l
  | [] => rfl
  | c :: l => by
    unfold pts Names.parts
    rw [pts_parts l]
    rfl
theorem ltB_iff : ∀ p q : List UInt8, ltB p q = decide (p < q)
  | [], [] => by simp [ltB]
  | [], _ :: _ => by simp [ltB]
  | _ :: _, [] => by simp [ltB]
  | a :: x, b :: y => by
    unfold ltB
    by_cases e : a = b
    · rw [if_pos e, ltB_iff x y, decide_eq_decide, e]
      simp
    · rw [if_neg e, decide_eq_decide, List.cons_lt_cons_iff]
      constructor
      · intro h; exact .inl h
      · rintro (h | ⟨h, _⟩)
        · exact h
        · exact absurd h e
theorem befP_app : ∀ (p x y : List (List UInt8)), befP (p ++ x) (p ++ y) = befP x y
  | [], _, _ => rfl
  | a :: p, x, y => by
    show (if a = a then befP (p ++ x) (p ++ y) else _) = _
    rw [if_pos rfl, befP_app p]
theorem befP_drop {x y : List (List UInt8)} {i : Nat} (h : x.take i = y.take i) : befP x y = befP (x.drop i) (y.drop i) := by
  conv => lhs; rw [← List.take_append_drop i x, ← List.take_append_drop i y]
  rw [h, befP_app]
theorem befP_in {x y : List (List UInt8)} {i : Nat} {p q : List UInt8} (h : x.take i = y.take i) (hx : x[i]? = some p) (hy : y[i]? = some q) (hne : p ≠ q) : befP x y = ltB p q := by
  rw [befP_drop h]
  obtain ⟨hl, rfl⟩ := List.getElem?_eq_some_iff.1 hx
  obtain ⟨hm, rfl⟩ := List.getElem?_eq_some_iff.1 hy
  rw [List.drop_eq_getElem_cons hl, List.drop_eq_getElem_cons hm]
  show (if x[i] = y[i] then _ else _) = _
  rw [if_neg hne]
theorem befP_end {x y : List (List UInt8)} {i : Nat} (h : x.take i = y.take i) (hx : i ≤ x.length) (hy : i ≤ y.length) (he : i = x.length ∨ i = y.length) : befP x y = decide (x.length < y.length) := by
  rw [befP_drop h]
  rcases he with e | e
  · subst e
    rw [List.drop_length]
    cases hd : y.drop x.length with
    | nil =>
      have := congrArg List.length hd
      rw [List.length_drop] at this
      simp at this
      rw [decide_eq_false (by omega)]
      rfl
    | cons c r =>
      have := congrArg List.length hd
      rw [List.length_drop] at this
      simp at this
      rw [decide_eq_true (by omega)]
      rfl
  · subst e
    rw [List.drop_length, decide_eq_false (by omega)]
    cases x.drop y.length <;> rfl
theorem take_same2 {a b : List (List UInt8)} {i : Nat} {c : List UInt8} (h : a.take i = b.take i) (ha : a[i]? = some c) (hb : b[i]? = some c) : a.take (i + 1) = b.take (i + 1) := by
  rw [List.take_add_one, List.take_add_one, h, ha, hb]
end Go.Img
namespace Go.Proofs.YtmnenamdjkjlaaaDoor
open Go.RowKit Go.Img Go.Shelf Go.Rws Go.Names
open Go.Mov hiding fold
attribute [local go_sem] Oper.semAt_some
set_option maxHeartbeats 4000000 in
set_option maxRecDepth 100000 in
theorem rbefore15_any (a b : List UInt8) (w : World) (ha : a.length ≤ 400) (hb : b.length ≤ 400) :
    Calls Tryd.prog 8 #[.string ⟨a.toArray⟩, .string ⟨b.toArray⟩] w fun e w' => e = .returned (.bool (decide (cmpP a b < 0))) ∧ Below w.heap.size w w' := by
  have HE := hide (befP_cmp a b)
  obtain ⟨A, hA⟩ : ∃ A : ByteArray, A = ⟨a.toArray⟩ := ⟨_, rfl⟩
  obtain ⟨B, hB⟩ : ∃ B : ByteArray, B = ⟨b.toArray⟩ := ⟨_, rfl⟩
  have hAl : A.data.toList = a := by rw [hA]
  have hBl : B.data.toList = b := by rw [hB]
  have HA := hide (fun v => rparts_any A v (by rw [hA]; show a.toArray.size ≤ 500; simp; omega))
  have HB := hide (fun v => rparts_any B v (by rw [hB]; show b.toArray.size ≤ 500; simp; omega))
  rw [← hA, ← hB]
  rw [hAl] at HA
  rw [hBl] at HB
  rw [pts_parts, pts_parts] at HE
  have hx : (parts a).length ≤ 401 := Nat.le_trans (parts_length a) (by omega)
  have hy : (parts b).length ≤ 401 := Nat.le_trans (parts_length b) (by omega)
  obtain ⟨R, hR⟩ : ∃ R, R = decide (cmpP a b < 0) := ⟨_, rfl⟩
  rw [← hR] at HE ⊢
  obtain ⟨x, hxx⟩ : ∃ x, x = parts a := ⟨_, rfl⟩
  obtain ⟨y, hyy⟩ : ∃ y, y = parts b := ⟨_, rfl⟩
  rw [← hxx] at HA HE hx
  rw [← hyy] at HB HE hy
  clear hA hB hAl hBl hxx hyy hR
  go_enter Tryd.func8, Tryd.ntmps8
  go_wp2_with (first
    | (go_at_call 18; refine (HA.out _).mono ?_; rintro e w1 ⟨xa, xc, rfl, h1⟩; have H1 := hide h1; clear h1 HA)
    | (go_at_call 18; refine (HB.out _).mono ?_; rintro e w2 ⟨ya, yc, rfl, h2⟩; have H2 := hide h2; clear h2 HB))
  have k2 : Below w.heap.size w w2 := H1.out.below.trans (H2.out.below.mono H1.out.below.size)
  have hRx : RowsAt sCs 1 w2 (.slice xa x.length xc) x := (RowsAt.of_own (cs := sCs) (z := 1) (fun _ => rfl) (by rw [strV_flat]; exact H1.out.own)).below H2.out.below
  have hRy : RowsAt sCs 1 w2 (.slice ya y.length yc) y := RowsAt.of_own (cs := sCs) (z := 1) (fun _ => rfl) (by rw [strV_flat]; exact H2.out.own)
  have HK := hide (And.intro k2 (And.intro hRx hRy))
  clear H1 H2 k2 hRx hRy
  obtain ⟨N, hN⟩ : ∃ N, N = x.length := ⟨_, rfl⟩
  obtain ⟨M, hM⟩ : ∃ M, M = y.length := ⟨_, rfl⟩
  rw [← hN] at HK hx
  rw [← hM] at HK hy
  try simp only [← hN, ← hM]
  have HNM := hide (And.intro hN hM)
  clear hN hM
  go_loopw [7] (fun v7 wr => ∃ i : Nat, v7 = .int .i64 i ∧ i ≤ N ∧ i ≤ M ∧ Hid (x.take i = y.take i ∧ Below w2.heap.size w2 wr)) (fun v7 _ => 1000 - (intOf v7).toNat)
  case atStart => exact ⟨0, rfl, Nat.zero_le _, Nat.zero_le _, rfl, Below.refl _ _⟩
  case round =>
    obtain ⟨i, rfl, hiN, hiM, HI⟩ := hrel
    have h0 : (0 : Int) ≤ i := by omega
    by_cases hgo : i < N ∧ i < M
    · obtain ⟨h1, h2⟩ := hgo
      have hI1 : (i : Int) < N := by omega
      have hI2 : (i : Int) < M := by omega
      obtain ⟨p, hp⟩ : ∃ p, x[i]? = some p := ⟨_, List.getElem?_eq_getElem (by rw [← HNM.out.1]; exact h1)⟩
      obtain ⟨q, hq⟩ : ∃ q, y[i]? = some q := ⟨_, List.getElem?_eq_getElem (by rw [← HNM.out.2]; exact h2)⟩
      obtain ⟨g1, o1, e1, q1, cx, l1, r1⟩ := (HK.out.2.1.below HI.out.2).at (fun e => by rw [e] at hp; cases hp)
      obtain ⟨g2, o2, e2, q2, cy, l2, r2⟩ := (HK.out.2.2.below HI.out.2).at (fun e => by rw [e] at hq; cases hq)
      subst e1 e2
      have c1 := r1 i p hp 0 _ rfl
      have c2 := r2 i q hq 0 _ rfl
      rw [Nat.mul_one, Nat.add_zero] at c1 c2
      have hc1 : (N : Int) ≤ xc := by rw [q1]; omega
      have hc2 : (M : Int) ≤ yc := by rw [q2]; omega
      obtain ⟨P, hP⟩ : ∃ P : ByteArray, P = ⟨p.toArray⟩ := ⟨_, rfl⟩
      obtain ⟨Q, hQ⟩ : ∃ Q : ByteArray, Q = ⟨q.toArray⟩ := ⟨_, rfl⟩
      rw [← hP] at c1
      rw [← hQ] at c2
      by_cases hpq : p = q
      · have heq : (P.toList == Q.toList) = true := by rw [hP, hQ, hpq]; simp
        have HN2 := hide (take_same2 HI.out.1 hp (by rw [hpq]; exact hq))
        clear hpq hP hQ hp hq r1 r2 q1 q2 l1 l2 cx cy
        go_upto_region 5 with fail
        go_region
        go_wp2
        go_roundw
        case rel => exact ⟨i + 1, by simp, by omega, by omega, HN2.out, HI.out.2.drew⟩
        case measure => simp [intOf]; omega
      · have heq : (P.toList == Q.toList) = false := by
          rw [beq_eq_false_iff_ne, hP, hQ, ByteArray.toList_eq, ByteArray.toList_eq]
          simpa using hpq
        obtain ⟨L, hL⟩ : ∃ L, L = ltB p q := ⟨_, rfl⟩
        have hlt : Op.bytesLess P.toList Q.toList = L := by
          rw [hL, ltB_iff, bytesLess_eq, hP, hQ, ByteArray.toList_eq, ByteArray.toList_eq]
        have HR : Hid (R = L) := by
          show _ = _
          rw [hL, ← HE.out]
          exact befP_in HI.out.1 hp hq hpq
        clear hpq hP hQ hp hq r1 r2 q1 q2 l1 l2 cx cy hL
        go_upto_region 5 with fail
        go_region
        go_upto_region 6 with fail
        go_region
        go_wp2
        go_ret
        exact ⟨by rw [HR.out]; rfl, HK.out.1.trans ((HI.out.2.drew).drew.mono HK.out.1.size)⟩
    · have HR : Hid (R = decide (N < M)) := by
        show _ = _
        rw [← HE.out, HNM.out.1, HNM.out.2]
        exact befP_end HI.out.1 (by rw [← HNM.out.1]; exact hiN) (by rw [← HNM.out.2]; exact hiM) (by rw [← HNM.out.1, ← HNM.out.2]; omega)
      by_cases hI1 : (i : Int) < N
      · have hI2 : ¬ (i : Int) < M := by omega
        have e1 : decide ((N : Int) < M) = decide (N < M) := by rw [decide_eq_decide]; omega
        clear hgo
        go_wp2
        go_ret
        exact ⟨by rw [HR.out, ← e1]; rfl, HK.out.1.trans (HI.out.2.mono HK.out.1.size)⟩
      · have e1 : decide ((N : Int) < M) = decide (N < M) := by rw [decide_eq_decide]; omega
        clear hgo
        go_wp2
        go_ret
        exact ⟨by rw [HR.out, ← e1]; rfl, HK.out.1.trans (HI.out.2.mono HK.out.1.size)⟩
end Go.Proofs.YtmnenamdjkjlaaaDoor
