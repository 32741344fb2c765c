/- Several texts in one: ImageAwake, NameParts, NameRefPath. -/
import Derived.Test.YtmnenamdjkjlaaaGreatDoorImageOf
import Derived.Test.YtmnenamdjkjlaaaGreatDoorRunAP
import Derived.Lib.LastIndexByte
import Derived.Test.YtmnenamdjkjlaaaGreatDoorRunAQ
import Derived.Laws.OwnMore
/- Contract: the law's own look whether an image answers. -/
namespace Go.Img
open Go.RowKit Go.Opn
open Go.Mov hiding fold
theorem now_name {n : Nat} {T : Ths} {o : Ob} {x : Th} (h : Mov.now n T o = some x) : x.name = o.name ∨ ∃ y ∈ T, x.name = y.name := by
  unfold Mov.now at h
  split at h
  · split at h
    · cases h; exact .inl rfl
    · cases h
  · split at h
    · split at h
      · rename_i y hy
        split at h
        · cases h; exact .inl rfl
        · cases h
      · cases h
    · split at h
      · split at h
        · rename_i y hy
          cases h
          exact .inr ⟨y, (look_mem hy).1, rfl⟩
        · cases h
      · split at h
        · split at h
          · rename_i y hy
            split at h
            · cases h
              exact .inr ⟨y, (look_mem hy).1, rfl⟩
            · cases h
          · cases h
        · cases h
theorem names_made {T : Ths} (hr : Rises T) {K : Nat} (hT : ∀ x ∈ T, x.name.size ≤ K) {o : Ob} (ho : o.name.size ≤ K) : ∀ x ∈ Mov.made T o, x.name.size ≤ K := by
  unfold Mov.made
  split
  · rename_i x hx
    intro z hz
    rcases (mem_put hr).1 hz with rfl | ⟨hz, _⟩
    · rcases now_name hx with e | ⟨y, hy, e⟩
      · rw [e]; exact ho
      · rw [e]; exact hT y hy
    · exact hT z hz
  · exact hT
theorem names_ths {K : Nat} : ∀ (l : List En) {T : Ths}, Fine T → (∀ x ∈ T, x.name.size ≤ K) → (∀ e ∈ l, e.Fits ∧ e.op.name.size ≤ K) → ∀ x ∈ ths T l, x.name.size ≤ K
  | [], _, _, hT, _ => hT
  | e :: r, T, h, hT, hl => names_ths r (h.made (hl e (by simp)).1.1) (names_made h.rises hT (hl e (by simp)).2) fun x hx => hl x (by simp [hx])
def twoE (i : Int) : En := ⟨⟨1, ⟨i, 0⟩, 16 * i, 0, ⟨#[97]⟩, false, ⟨#[]⟩, 0⟩, ⟨#[]⟩⟩
def twoT : Ths := ths [] (addsU [twoE 1, twoE 2]).1
theorem two_fits {i : Int} (h1 : 1 ≤ i) (h2 : i ≤ 2) : (twoE i).Fits :=
  ⟨⟨by show _ ≤ (1 : Int) ∧ (1 : Int) ≤ _; decide, ⟨by show (0 : Int) ≤ i; omega, by show i ≤ _; omega, by show _ ≤ (0 : Int); decide, by show (0 : Int) ≤ _; decide⟩, ⟨by show (0 : Int) ≤ 16 * i; omega, by show 16 * i ≤ _; omega⟩, ⟨by show (0 : Int) ≤ 0; decide, by show (0 : Int) ≤ _; decide⟩, by show (1 : Nat) ≤ _; decide, by show (0 : Nat) ≤ _; decide, by show _ ≤ (0 : Int) ∧ (0 : Int) ≤ _; decide⟩, by show (0 : Nat) ≤ _; decide⟩
theorem two_img : (img twoT).map (fun f => (f.path, f.id)) = [([97], 16), ([97, 126, 49], 32)] := by decide +kernel
end Go.Img
namespace Go.Proofs.YtmnenamdjkjlaaaGreatDoor
open Go.RowKit Go.Img Go.Shelf Go.Rws Go.MapInt Go.Opn
open Go.Mov hiding fold
attribute [local go_sem] Oper.semAt_some
set_option maxHeartbeats 4000000 in
set_option maxRecDepth 100000 in
theorem awake15_any (w : World) (hv : Vt w) : Calls Tryz.prog 9 #[] w fun r w' => r = .returned (.bool true) ∧ Below w.heap.size w w' := by
  have HN := hide (newTw_any w)
  have HV := hide hv
  clear hv
  go_enter Tryz.func9, Tryz.ntmps9
  go_upto_region 2 with (go_at_call 20; refine HN.out.mono ?_; rintro r w1 ⟨b, rfl, I1⟩; replace I1 := hide I1; clear HN)
  have HA1 : Hid (Calls Tryz.prog 23 #[.pointer (some ⟨b, 0, none⟩), .agg #[.int .i64 1, .int .u64 1, .int .i64 0, .int .u64 16, .int .u64 0, .string ⟨#[97]⟩, .bool false, .string ⟨#[]⟩, .int .i64 0, .string ⟨#[]⟩]] w1 fun r w' => r = .returned (.bool true) ∧ Tw w b (fun _ => False) (addsU [twoE 1]).1 (addsU [twoE 1]).2 w') := by
    refine (addTw_any (twoE 1) I1.out (two_fits (by decide) (by decide)) (by decide) ⟨by decide, by decide⟩).mono ?_
    rintro r w' ⟨rfl, h1, _, _⟩
    exact ⟨rfl, h1⟩
  go_upto_region 3 with (go_at_call 23; refine HA1.out.mono ?_; rintro r w2 ⟨rfl, I2⟩; replace I2 := hide I2; clear HA1 I1)
  have HA2 : Hid (Calls Tryz.prog 23 #[.pointer (some ⟨b, 0, none⟩), .agg #[.int .i64 1, .int .u64 2, .int .i64 0, .int .u64 32, .int .u64 0, .string ⟨#[97]⟩, .bool false, .string ⟨#[]⟩, .int .i64 0, .string ⟨#[]⟩]] w2 fun r w' => r = .returned (.bool true) ∧ Tw w b (fun _ => False) (addsU [twoE 1, twoE 2]).1 (addsU [twoE 1, twoE 2]).2 w') := by
    refine (addTw_any (twoE 2) I2.out (two_fits (by decide) (by decide)) (by decide) ⟨by decide, by decide⟩).mono ?_
    rintro r w' ⟨rfl, h1, _, _⟩
    exact ⟨rfl, h1⟩
  go_upto_region 4 with (go_at_call 23; refine HA2.out.mono ?_; rintro r w3 ⟨rfl, I3⟩; replace I3 := hide I3; clear HA2 I2)
  obtain ⟨mb, hT⟩ := I3.out.ths
  have hfit : ∀ e ∈ (addsU [twoE 1, twoE 2]).1, e.Fits := I3.out.fits
  have hnm : ∀ e ∈ (addsU [twoE 1, twoE 2]).1, e.Fits ∧ e.op.name.size ≤ 1000000 := fun e he => ⟨hfit e he, by
    have : e = twoE 1 ∨ e = twoE 2 := by
      have e9 : (addsU [twoE 1, twoE 2]).1 = [twoE 1, twoE 2] := by rfl
      rw [e9] at he
      simpa using he
    rcases this with rfl | rfl <;> decide⟩
  have HO := hide (of_any w3 (HV.out.below HV.out.size I3.out.k) hT (ths_fine Fine.nil hfit) (dirs_ths _ Fine.nil Dirs.nil hfit) (by decide) (names_ths _ Fine.nil (fun x hx => by cases hx) hnm))
  have HK := hide I3.out.k
  clear hT hfit hnm I3
  go_upto_region 5 with (go_at_call 7; refine HO.out.mono ?_; rintro r w4 ⟨v, rfl, ho⟩; replace HO := hide ho; clear ho)
  have hlen : (img (ths [] (addsU [twoE 1, twoE 2]).1)).length = 2 := by have := congrArg List.length two_img; simpa [twoT] using this
  have hR := HO.out.rows Fi.cs_length
  obtain ⟨f0, f1, hfs⟩ : ∃ f0 f1, img (ths [] (addsU [twoE 1, twoE 2]).1) = [f0, f1] := by
    match h : img (ths [] (addsU [twoE 1, twoE 2]).1), hlen with
    | [a, b], _ => exact ⟨a, b, rfl⟩
  have htwo := two_img
  unfold twoT at htwo
  rw [hfs] at htwo
  rw [hfs] at hR
  simp only [List.map_cons, List.map_nil, List.cons.injEq, Prod.mk.injEq, and_true] at htwo
  obtain ⟨⟨p0, i0⟩, p1, i1⟩ := htwo
  obtain ⟨g, off, cap, hv, hgl, hcap, hrg⟩ : ∃ g off cap, v = .slice (some ⟨g, off, none⟩) 2 cap ∧ g < w4.heap.size ∧ 2 ≤ cap ∧ ∀ i x, [f0, f1][i]? = some x → w4.rangeAt g (off + i * 5) (Fi.cs x) := by
    rcases hR with ⟨_, h⟩ | h
    · cases h
    · exact h
  subst hv
  have c0 := (cells5f (hrg 0 f0 rfl)).1
  have c1 := (cells5f (hrg 1 f1 rfl)).1
  have c2 := (cells5f (hrg 1 f1 rfl)).2.2.1
  rw [p0] at c0
  rw [p1] at c1
  rw [i1] at c2
  simp only [Nat.zero_mul, Nat.one_mul, Nat.add_zero] at c0 c1 c2
  have hcI : (2 : Int) ≤ cap := by omega
  have HB := hide (HK.out.trans (HO.out.below.mono HK.out.size))
  clear hrg hR hfs hlen hcap hgl p0 i0 p1 i1 HO
  go_wp2
  go_ret
  exact ⟨rfl, HB.out⟩
end Go.Proofs.YtmnenamdjkjlaaaGreatDoor
/- Paths: the parts of a text between /, and where the last / stands; of no program. -/
namespace Go.Names
open Go.RowKit
/-- The parts of a text, between /. -/
def parts : Bs → List Bs
  | [] => [[]]
  | c :: l => if c = 47 then [] :: parts l else match parts l with
    | p :: ps => (c :: p) :: ps
    | [] => [[c]]
theorem parts_ne : ∀ l, parts l ≠ []
  | [] => by simp [parts]
  | c :: l => by
    unfold parts
    split
    · simp
    · split <;> simp
theorem parts_none : ∀ {l : Bs}, 47 ∉ l → parts l = [l]
  | [], _ => rfl
  | c :: l, h => by
    have h1 : c ≠ 47 := fun e => h (by simp [e])
    have h2 := parts_none (l := l) (fun e => h (by simp [e]))
    unfold parts
    rw [if_neg h1, h2]
theorem parts_cut : ∀ {l : Bs} {i : Nat}, Lib.indexByte l 47 = i → parts l = l.take i :: parts (l.drop (i + 1))
  | [], i, h => by simp [Lib.indexByte] at h
  | c :: l, i, h => by
    unfold Lib.indexByte at h
    by_cases hc : c = 47
    · subst hc
      simp at h
      obtain rfl : i = 0 := by omega
      simp [parts]
    · have hc' : (c == 47) = false := by simpa using hc
      simp only [hc', Bool.false_eq_true, if_false] at h
      by_cases h3 : Lib.indexByte l 47 = -1
      · simp [h3] at h
      · have h4 : (Lib.indexByte l 47 == -1) = false := by simpa using h3
        simp only [h4, Bool.false_eq_true, if_false] at h
        obtain ⟨k, rfl⟩ : ∃ k, i = k + 1 := ⟨i - 1, by have := Lib.indexByte_ge l 47; omega⟩
        have ih := parts_cut (l := l) (i := k) (by omega)
        conv => lhs; unfold parts
        rw [if_neg hc, ih]
        rfl
theorem parts_snoc_cut : ∀ (l : Bs), parts (l ++ [47]) = parts l ++ [[]]
  | [] => rfl
  | c :: l => by
    have ih := parts_snoc_cut l
    show parts (c :: (l ++ [47])) = parts (c :: l) ++ [[]]
    unfold parts
    by_cases hc : c = 47
    · rw [if_pos hc, if_pos hc, ih]; rfl
    · rw [if_neg hc, if_neg hc, ih]
      cases h : parts l with
      | nil => exact absurd h (parts_ne l)
      | cons p ps => rfl
/-- One more byte behind the last part. -/
def more1 (c : UInt8) : List Bs → List Bs
  | [] => []
  | [p] => [p ++ [c]]
  | p :: q :: ps => p :: more1 c (q :: ps)
theorem more1_cons {c : UInt8} {p : Bs} {ps : List Bs} (h : ps ≠ []) : more1 c (p :: ps) = p :: more1 c ps := by
  cases ps with
  | nil => exact absurd rfl h
  | cons q ps => rfl
theorem parts_snoc : ∀ (l : Bs) {c : UInt8}, c ≠ 47 → parts (l ++ [c]) = more1 c (parts l)
  | [], c, h => by simp [parts, more1, h]
  | d :: l, c, h => by
    have ih := parts_snoc l h
    show parts (d :: (l ++ [c])) = more1 c (parts (d :: l))
    unfold parts
    by_cases hd : d = 47
    · rw [if_pos hd, if_pos hd, ih, more1_cons (parts_ne l)]
    · rw [if_neg hd, if_neg hd, ih]
      cases h2 : parts l with
      | nil => exact absurd h2 (parts_ne l)
      | cons p ps =>
        cases ps with
        | nil => rfl
        | cons q qs => rfl
theorem more1_at : ∀ {P : List Bs} {k : Nat} {c : UInt8} {p : Bs}, P.length = k + 1 → P[k]? = some p → more1 c P = P.set k (p ++ [c])
  | [], k, c, p, h, _ => by simp at h
  | [q], k, c, p, h, hp => by
    obtain rfl : k = 0 := by simpa using h.symm
    simp at hp
    subst hp
    rfl
  | q :: r :: P, k, c, p, h, hp => by
    obtain ⟨j, rfl⟩ : ∃ j, k = j + 1 := ⟨k - 1, by simp at h; omega⟩
    have := more1_at (P := r :: P) (k := j) (c := c) (p := p) (by simpa using h) (by simpa using hp)
    show q :: more1 c (r :: P) = _
    rw [this]
    rfl
theorem parts_length : ∀ (l : Bs), (parts l).length ≤ l.length + 1
  | [] => by simp [parts]
  | c :: l => by
    have ih := parts_length l
    unfold parts
    split
    · simp; omega
    · split
      · rename_i h; rw [h] at ih; simp at ih ⊢; omega
      · simp
/-- What may be a path. -/
def pathB (l : Bs) : Bool := decide (l.length ≤ 238) && (parts l).all legal
theorem parts_le : ∀ (l : Bs), ∀ p ∈ parts l, p.length ≤ l.length
  | [], p, h => by simp [parts] at h; simp [h]
  | c :: l, p, h => by
    have ih := parts_le l
    unfold parts at h
    split at h
    · rcases List.mem_cons.1 h with rfl | h
      · simp
      · have := ih p h; simp; omega
    · split at h
      · rename_i q qs e
        rw [e] at ih
        rcases List.mem_cons.1 h with rfl | h
        · have := ih q (by simp); simp; omega
        · have := ih p (by simp [h]); simp; omega
      · rw [List.mem_singleton.1 h]; simp
/-- A text, cut at its last /. -/
def lastTo (s : ByteArray) : Nat → Option Nat
  | 0 => none
  | k + 1 => if ((s.data[k]!).toNat : Int) = 47 then some k else lastTo s k
theorem lastIdx_is (s : ByteArray) : ∀ k, Lib.lastIdx s 47 k = match lastTo s k with | none => -1 | some i => (i : Int)
  | 0 => rfl
  | k + 1 => by
    unfold Lib.lastIdx lastTo
    by_cases h : ((s.data[k]!).toNat : Int) = 47
    · rw [if_pos h, if_pos h]
    · rw [if_neg h, if_neg h, lastIdx_is s k]
theorem lastTo_lt (s : ByteArray) : ∀ k i, lastTo s k = some i → i < k
  | 0, i, h => by cases h
  | k + 1, i, h => by
    unfold lastTo at h
    split at h
    · cases h; omega
    · have := lastTo_lt s k i h; omega
def splitB (s : ByteArray) : ByteArray × ByteArray := match lastTo s s.size with
  | none => (⟨#[]⟩, s)
  | some i => (s.extract 0 i, s.extract (i + 1) s.size)
end Go.Names
/- Contracts: the document's parts of a path, and what may be one. -/
namespace Go.Proofs.YtmnenamdjkjlaaaGreatDoor
open Go.RowKit Go.Names
set_option maxRecDepth 100000 in
theorem Ar.stored {W w : World} {g m c : Nat} {outs : List Bs} (h : Ar W (.slice (some ⟨g, 0, none⟩) m c) outs w) (hm : m = outs.length) (j : Nat) (x : Bs) : Ar W (.slice (some ⟨g, 0, none⟩) m c) (outs.set j x) (w.drew.setCell ⟨g, j, none⟩ (.string ⟨x.toArray⟩)) := by
  subst hm
  have h1 : w.drew.ownsRow W.heap.size 9 1 (.slice (some ⟨g, 0, none⟩) outs.length c) outs.length (strV outs) := h.own
  obtain ⟨h2, h3⟩ := h1.stored j (.string ⟨x.toArray⟩)
  refine ⟨?_, h.below.drew.grown h3 h.below.size fun k e => by cases e; exact (own_at h.own rfl).1⟩
  rw [List.length_set]
  unfold strV at h2 ⊢
  rw [List.map_set]
  exact h2
set_option maxRecDepth 100000 in
theorem Ar.some {W w : World} {a : Option Addr} {m c : Nat} {outs : List Bs} (h : Ar W (.slice a m c) outs w) (hm : 0 < outs.length) : ∃ g, a = .some ⟨g, 0, none⟩ := by
  rcases h.own.2 with ⟨_, h0⟩ | ⟨j, cap, cur, h1, _⟩
  · omega
  · cases h1; exact ⟨j, rfl⟩
set_option maxRecDepth 100000 in
set_option maxHeartbeats 2000000 in
theorem rparts_any (s : ByteArray) (w : World) (hs : s.size ≤ 500) :
    Calls Tryz.prog 32 #[.string s] w fun e w' => ∃ a c, e = .returned (.slice a (parts s.data.toList).length c) ∧ Ar w (.slice a (parts s.data.toList).length c) (parts s.data.toList) w' := by
  have hsz : s.data.toList.length = s.size := by simp
  go_enter Tryz.func32, Tryz.ntmps32
  go_wp2
  go_loopw [3, 4] (fun vo vi wr => ∃ (i g m c : Nat), i ≤ s.size ∧ vo = .slice (some ⟨g, 0, none⟩) m c ∧ vi = .int .i64 i ∧ Hid (m = (parts (s.data.toList.take i)).length ∧ Ar w (.slice (some ⟨g, 0, none⟩) m c) (parts (s.data.toList.take i)) wr)) (fun _ vi _ => 1000 - (intOf vi).toNat)
  case atStart =>
    refine ⟨0, w.heap.size, 1, 1, Nat.zero_le _, rfl, rfl, rfl, ?_, (Below.refl _ w).alloc (Nat.le_refl _) _⟩
    exact RegionOwn.made_one w w.heap.size 9 1 #[.string ⟨#[]⟩] (Nat.le_refl _) rfl
  case round =>
    obtain ⟨i, g, m, c, hi, rfl, rfl, HH⟩ := hrel
    have hm1 : 1 ≤ m := by
      rw [HH.out.1]
      exact List.length_pos_iff.2 (parts_ne _)
    have hm2 : m ≤ 501 := by
      rw [HH.out.1]
      have := parts_length (s.data.toList.take i)
      rw [List.length_take] at this
      omega
    by_cases hlt : i < s.size
    · have hlt' : (i : Int) < s.size := by omega
      have hi1 : (i : Int) + 1 ≤ s.size := by omega
      have hi0 : (i : Int) ≤ i + 1 := by omega
      have htk : s.data.toList.take (i + 1) = s.data.toList.take i ++ [s[i]] := by rw [List.take_add_one, data_get s i hlt]; rfl
      by_cases hc : s[i] = 47
      · have hcn : (s[i].toNat : Int) = 47 := by rw [hc]; rfl
        have hcb : ((s[i].toNat : Int) == 47) = true := by simp [hcn]
        have hnx := parts_snoc_cut (s.data.toList.take i)
        rw [← hc, ← htk] at hnx
        have HN := hide hnx
        clear hnx htk hc
        go_wp2_with (at_builtin; refine HH.out.2.append [] (by rw [← HH.out.1]; omega) rfl _ _ rfl rfl rfl rfl ?_
                     intro a1 c1 w1 h1
                     rw [← HN.out, ← HH.out.1] at h1
                     rw [← HH.out.1]
                     obtain ⟨g1, rfl⟩ := h1.some (List.length_pos_iff.2 (parts_ne _))
                     have H1 := hide h1
                     clear h1)
        go_roundw
        case rel => exact ⟨i + 1, g1, m + 1, c1, by omega, rfl, by go_num, by rw [HN.out, List.length_append, ← HH.out.1]; rfl, H1.out⟩
        case measure => simp [intOf]; omega
      · have hcn : ¬ (s[i].toNat : Int) = 47 := by
          intro e
          have h2 : s[i].toNat = 47 := by omega
          exact hc (UInt8.toNat_inj.1 (h2.trans rfl))
        have hcb : ((s[i].toNat : Int) == 47) = false := beq_eq_false_iff_ne.2 hcn
        have hnx := parts_snoc (s.data.toList.take i) hc
        rw [← htk] at hnx
        obtain ⟨q, rfl⟩ : ∃ q, m = q + 1 := ⟨m - 1, by omega⟩
        obtain ⟨p, hp⟩ : ∃ p, (parts (s.data.toList.take i))[q]? = some p := ⟨_, List.getElem?_eq_getElem (by rw [← HH.out.1]; omega)⟩
        rw [more1_at (k := q) HH.out.1.symm hp] at hnx
        have HN := hide hnx
        have hpr := HH.out.2.reads
        obtain ⟨P, hP⟩ : ∃ P : ByteArray, P = ⟨p.toArray⟩ := ⟨_, rfl⟩
        have hcell : wr.cell? ⟨g, 0 + q, none⟩ = some (.string P) := by
          refine hpr.cell (j := q) ?_
          rw [List.getElem?_map, hp, hP]
          rfl
        rw [Nat.zero_add] at hcell
        have hfz : wr.frozen? ⟨g, q, none⟩ = false := (HH.out.1 ▸ HH.out.2.own).frozenAt q
        have hcellD : wr.drew.cell? ⟨g, q, none⟩ = some (.string P) := hcell
        have hfzD : wr.drew.frozen? ⟨g, q, none⟩ = false := hfz
        have hmc : (q : Int) + 1 ≤ c := by
          have : q + 1 ≤ c := by
            have ho := HH.out.2.own
            rw [← HH.out.1] at ho
            rcases ho.2 with ⟨h1, _⟩ | ⟨_, cap, cur, h1, _, _, h4, _⟩
            · cases h1
            · cases h1; exact h4
          omega
        have hPs : P.size ≤ 500 := by
          rw [hP, ba_size]
          have := parts_le _ p (List.mem_of_getElem? hp)
          rw [List.length_take] at this
          omega
        have hnew : P ++ s.extract i (i + 1) = ⟨(p ++ [s[i]]).toArray⟩ := by
          apply ByteArray.ext
          rw [← Array.toList_inj, hP]
          simp [ByteArray.data_append, ByteArray.data_extract]
          rw [List.take_one, List.head?_drop, data_get s i hlt]
          rfl
        have HX : Hid (Ar w (.slice (some ⟨g, 0, none⟩) (q + 1) c) (parts (s.data.toList.take (i + 1))) (wr.drew.setCell ⟨g, q, none⟩ (.string (P ++ s.extract i (i + 1))))) := by
          show Ar _ _ _ _
          rw [HN.out, hnew]
          exact HH.out.2.stored HH.out.1 q _
        have HL : Hid (q + 1 = (parts (s.data.toList.take (i + 1))).length) := by
          show _ = _
          rw [HN.out, List.length_set]
          exact HH.out.1
        have hq0 : (0 : Int) ≤ q := by omega
        have hq1 : (q : Int) < q + 1 := by omega
        have hex : (s.extract i (i + 1)).size ≤ 1 := by rw [ByteArray.size_extract]; omega
        clear hnew hnx hpr hP hp htk hc HN HH
        go_upto_region 7 with (fail)
        go_region
        go_wp2
        go_roundw
        case rel => exact ⟨i + 1, g, q + 1, c, by omega, rfl, by go_num, HL.out, HX.out⟩
        case measure => simp [intOf]; omega
    · have hlt' : ¬ (i : Int) < s.size := by omega
      have hie : i = s.size := by omega
      have hte : s.data.toList.take i = s.data.toList := by rw [hie, ← hsz, List.take_length]
      obtain ⟨hm, hA⟩ := HH.out
      rw [hte] at hm hA
      subst hm
      have HA := hide hA
      clear hA HH
      go_wp2
      go_ret
      exact ⟨_, _, rfl, HA.out⟩
set_option maxRecDepth 100000 in
set_option maxHeartbeats 2000000 in
theorem rpath_any (s : ByteArray) (w : World) (hs : s.size ≤ 500) :
    Calls Tryz.prog 11 #[.string s] w fun e w' => e = .returned (.bool (pathB s.data.toList)) ∧ Below w.heap.size w w' := by
  have hsz : s.data.toList.length = s.size := by simp
  by_cases hbig : 238 < s.size
  · have hb : pathB s.data.toList = false := by unfold pathB; rw [hsz, decide_eq_false (by omega)]; rfl
    rw [hb]
    have hbi : (238 : Int) < s.size := by omega
    go_enter Tryz.func11, Tryz.ntmps11
    go_wp2
    go_ret
    exact ⟨rfl, Below.refl _ _⟩
  · have hb : pathB s.data.toList = (parts s.data.toList).all legal := by unfold pathB; rw [hsz, decide_eq_true (by omega)]; rfl
    rw [hb]
    have hbi : ¬ (238 : Int) < s.size := by omega
    have HP := hide (rparts_any s w hs)
    have hle : Hid (∀ p ∈ parts s.data.toList, p.length ≤ 500) := fun p hp => by have := parts_le _ p hp; omega
    have hln : (parts s.data.toList).length ≤ 501 := by have := parts_length s.data.toList; omega
    clear hb hsz
    generalize parts s.data.toList = ps at HP hle hln
    go_enter Tryz.func11, Tryz.ntmps11
    go_wp2_with (go_at_call 32; refine HP.out.mono ?_; rintro e w1 ⟨a, c, rfl, hA⟩
                 have HA := hide hA
                 clear hA)
    go_loopw [4] (fun vi wr => ∃ i : Nat, i ≤ ps.length ∧ vi = .int .i64 i ∧ Hid ((ps.take i).all legal = true ∧ wr = w1)) (fun vi _ => 1000 - (intOf vi).toNat)
    case atStart => exact ⟨0, Nat.zero_le _, rfl, rfl, rfl⟩
    case round =>
      obtain ⟨i, hi, rfl, HH⟩ := hrel
      obtain ⟨hall, rfl⟩ := HH.out
      clear HH
      by_cases hlt : i < ps.length
      · have hlt' : (i : Int) < ps.length := by omega
        obtain ⟨p, hp⟩ : ∃ p, ps[i]? = some p := ⟨_, List.getElem?_eq_getElem hlt⟩
        obtain ⟨P, hP⟩ : ∃ P : ByteArray, P = ⟨p.toArray⟩ := ⟨_, rfl⟩
        have hpi : (ps.map fun x => (⟨x.toArray⟩ : ByteArray))[i]? = some P := by rw [List.getElem?_map, hp, hP]; rfl
        have hR := HA.out.reads
        obtain ⟨b, off, cp, hvv, hcp, hb⟩ := hR.at (fun e => by rw [e] at hpi; cases hpi)
        rw [List.length_map] at hvv hcp
        cases hvv
        have hcell := hR.cell hpi
        have hcp' : (ps.length : Int) ≤ c := by omega
        have hPd : P.data.toList = p := by rw [hP]
        have HL := hide (rlegal_any P wr (by rw [hP, ba_size]; have := hle.out p (List.mem_of_getElem? hp); omega))
        rw [hPd] at HL
        have htk : (ps.take (i + 1)).all legal = legal p := by rw [List.take_add_one, hp]; simp [hall]
        cases hlp : legal p with
        | false =>
          rw [hlp] at HL
          have hno : ps.all legal = false := by
            rw [Bool.eq_false_iff]
            intro e
            rw [List.all_eq_true.1 e p (List.mem_of_getElem? hp)] at hlp
            cases hlp
          have HN := hide hno
          clear hno hlp htk hpi hR hP hPd hp hall
          go_wp2_with (go_at_call 33; refine HL.out.mono ?_; rintro e w2 ⟨rfl, rfl⟩)
          go_ret
          exact ⟨by rw [HN.out]; rfl, HA.out.below⟩
        | true =>
          rw [hlp] at HL htk
          have HT := hide htk
          clear hlp htk hpi hR hP hPd hp hall
          go_wp2_with (go_at_call 33; refine HL.out.mono ?_; rintro e w2 ⟨rfl, h2⟩; replace h2 := h2.symm; subst h2)
          go_roundw
          case rel => exact ⟨i + 1, by omega, by go_num, HT.out, trivial⟩
          case measure => simp [intOf]; omega
      · have hlt' : ¬ (i : Int) < ps.length := by omega
        have hie : i = ps.length := by omega
        rw [hie, List.take_length] at hall
        have HT := hide hall
        clear hall
        go_wp2
        go_ret
        exact ⟨by rw [HT.out]; rfl, HA.out.below⟩
end Go.Proofs.YtmnenamdjkjlaaaGreatDoor
