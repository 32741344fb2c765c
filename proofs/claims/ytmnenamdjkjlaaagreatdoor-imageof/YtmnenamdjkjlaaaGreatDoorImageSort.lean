/- Contract: an image's files are sorted by their paths. -/
import Derived.Test.YtmnenamdjkjlaaaGreatDoorRunAR
import Derived.Test.YtmnenamdjkjlaaaGreatDoorRunAI
namespace Go.Proofs.YtmnenamdjkjlaaaGreatDoor
open Go.RowKit Go.Img Go.Shelf Go.Rws Go.Lib
open Go.Sort hiding Below
attribute [local go_sem] Oper.semAt_some
/-- Files whose paths are not too long. -/
structure Fs where
  f : Fi
  h : f.path.length ≤ 1000
def fsZero : Fs := ⟨Fi.zero, by decide⟩
theorem swoFs : SWO (ltOf fun x y : Fs => cmpF x.f y.f) := by
  have h : (ltOf fun x y : Fs => cmpF x.f y.f) = fun x y => ltF x.f y.f := rfl
  rw [h]
  exact ⟨fun x => swoF.irrefl x.f, fun x y z => swoF.trans x.f y.f z.f, fun x y z => swoF.ntrans x.f y.f z.f⟩
theorem fcmpLays [Inhabited Fs] (blk off size : Nat) (w : World) : CmpLays Tryz.prog 17 #[] (fun x : Fs => x.f.cs) 5 (fun x y => cmpF x.f y.f) blk off size w := by
  intro m os dk hs x y
  refine (fcompare_any x.f y.f _ x.h y.h).mono ?_
  rintro e w' ⟨he, n, hw⟩
  refine ⟨he, n, #[.cells x.f.cs.toArray 36, .cells y.f.cs.toArray 36], ?_⟩
  rw [hw, alloc_eq_grow, alloc_eq_grow, grow_grow]
  rfl
set_option maxRecDepth 100000 in
theorem isAggFi (w : World) : (isAgg (sortFL_ren.t 24)).run Tryz.prog w = .ok true w := by kernel_rfl
set_option maxRecDepth 100000 in
theorem sizeOfFi (w : World) : (Go.sizeOf (sortFL_ren.t 24)).run Tryz.prog w = .ok 5 w := by kernel_rfl
theorem flatK_list [Inhabited Fs] (d : Array Fs) : (flatK (fun x : Fs => x.f.cs) 5 d).toList = (d.toList.map (·.f)).flatMap Fi.cs := by
  have hl : ((d.toList.map (·.f)).flatMap Fi.cs).length = d.size * 5 := by rw [flat_len Fi.cs_length, List.length_map, Array.length_toList]
  apply List.ext_getElem?
  intro t
  by_cases ht : t < d.size * 5
  · have hq : t / 5 < d.size := by omega
    have h1 := get_flatK (fun x : Fs => x.f.cs) 5 d t ht
    have hx : (d.toList.map (·.f))[t / 5]? = some (d[t / 5]!).f := by
      rw [List.getElem?_map, Array.getElem?_toList, Array.getElem?_eq_getElem hq]
      simp [hq]
    have hr : t % 5 < ((d[t / 5]!).f.cs).length := by rw [Fi.cs_length]; omega
    have h2 := flat_in Fi.cs_length hx (t % 5) _ (List.getElem?_eq_getElem hr)
    rw [show t / 5 * 5 + t % 5 = t by omega] at h2
    have ht2 : t < (flatK (fun x : Fs => x.f.cs) 5 d).size := by rw [size_flatK]; exact ht
    rw [h2, Array.getElem?_toList, Array.getElem?_eq_getElem ht2]
    rw [getElem!_pos (flatK (fun x : Fs => x.f.cs) 5 d) t ht2] at h1
    rw [h1, getElem!_pos (d[t / 5]!).f.cs (t % 5) hr]
  · have e1 : (flatK (fun x : Fs => x.f.cs) 5 d).toList.length ≤ t := by rw [Array.length_toList, size_flatK]; omega
    have e2 : ((d.toList.map (·.f)).flatMap Fi.cs).length ≤ t := by rw [hl]; omega
    rw [List.getElem?_eq_none e1, List.getElem?_eq_none e2]
/-- An image's files, sorted. -/
theorem sortFs_any {W w : World} {l : List Fi} {a : Option Addr} {n c : Nat} (h : OwnR Fi.cs 5 36 W (.slice a n c) l w) (hl : ∀ f ∈ l, f.path.length ≤ 1000) (hn : l.length ≤ 100000) :
    Calls Tryz.prog 28 #[.slice a n c, .func (.func 17) #[] #[]] w fun e w' => e = .returned (.tuple #[]) ∧ ∃ l' : List Fi, l'.Perm l ∧ Srt l' ∧ OwnR Fi.cs 5 36 W (.slice a n c) l' w' := by
  have : Inhabited Fs := ⟨fsZero⟩
  obtain ⟨a', c', hf⟩ := h.form
  simp only [Value.slice.injEq] at hf
  obtain ⟨rfl, rfl, rfl⟩ := hf
  by_cases h0 : l = []
  · subst h0
    refine (AnyF.slices_SortFunc_none (ρ := sortFL_ren) { sortFL with } a c _ w).mono ?_
    rintro e w' ⟨he, rfl⟩
    exact ⟨he, [], List.Perm.refl _, List.Pairwise.nil, h⟩
  · obtain ⟨⟨h1, h2⟩, hb⟩ := h
    rcases h2 with ⟨h2, h3⟩ | ⟨g, cap, cur, h2, h3, h4, h5, h6, h7, h8⟩
    · exact absurd (List.length_eq_zero_iff.1 h3) h0
    · simp only [Value.slice.injEq] at h2
      obtain ⟨rfl, _, rfl⟩ := h2
      obtain ⟨d, hd⟩ : ∃ d : Array Fs, d.toList.map (·.f) = l := ⟨(l.attach.map fun x => (⟨x.1, hl x.1 x.2⟩ : Fs)).toArray, by rw [List.toList_toArray]; rw [List.map_map]; exact List.attach_map_subtype_val l⟩
      have hds : d.size = l.length := by rw [← hd]; simp
      have hgl : g < w.heap.size := (Array.getElem?_eq_some_iff.1 h4).1
      have hF : (flatK (fun x : Fs => x.f.cs) 5 d).toList = l.flatMap Fi.cs := by rw [flatK_list, hd]
      have hH : HoldsK (fun x : Fs => x.f.cs) 5 w g 0 d := by
        intro j hj
        rw [size_flatK] at hj
        have hj2 : j < (flatK (fun x : Fs => x.f.cs) 5 d).size := by rw [size_flatK]; exact hj
        rw [Nat.zero_add]
        refine ⟨?_, frozen_of_row _ _ _ _ _ h4⟩
        have e1 : cur[j]? = some (flatK (fun x : Fs => x.f.cs) 5 d)[j] := by
          have : (l.flatMap Fi.cs)[j]? = some (flatK (fun x : Fs => x.f.cs) 5 d)[j] := by rw [← hF, Array.getElem?_toList, Array.getElem?_eq_getElem hj2]
          rw [← h8, List.getElem?_take_of_lt (by omega), Array.getElem?_toList] at this
          exact this
        rw [cell_of_row _ _ _ _ _ _ h4, e1, getElem!_pos (flatK (fun x : Fs => x.f.cs) 5 d) j hj2]
        rfl
      have hc := AnyQ.slices_SortFunc (ρ := sortFL_ren) sortFL 5 isAggFi sizeOfFi (fun x : Fs => x.f.cs) (fun _ => rfl) (fun x => fi_one x.f) (fun x y => cmpF x.f y.f) swoFs 17 #[] g 0 c d w (enters_of Tryz.func17 (by kernel_rfl) rfl) (fcmpLays g 0 d.size w) hH hgl (by omega)
      rw [hds] at hc
      refine hc.mono ?_
      rintro e w' ⟨he, d', m, os, hp, hs, rfl⟩
      refine ⟨he, d'.toList.map (·.f), ?_, ?_, ?_⟩
      · have h9 := hp.2.2
        have e1 : d'.extract 0 l.length = d' := Array.extract_eq_self_of_le (by rw [hp.1, hds]; exact Nat.le_refl _)
        have e2 : d.extract 0 l.length = d := Array.extract_eq_self_of_le (by rw [hds]; exact Nat.le_refl _)
        rw [e1, e2] at h9
        have h10 := h9.map (·.f)
        rw [hd] at h10
        exact h10
      · unfold Srt
        rw [List.pairwise_map, List.pairwise_iff_getElem]
        intro i j hi hj hij
        have hsz' : d'.size = l.length := by rw [hp.1]; exact hds
        have hi' : i < d'.size := by simpa using hi
        have hj' : j < d'.size := by simpa using hj
        have h9 := hs i j (Nat.zero_le _) hij (by omega)
        rw [getElem!_pos d' i hi', getElem!_pos d' j hj'] at h9
        rw [Array.getElem_toList, Array.getElem_toList]
        exact h9
      · have hsz' : d'.size = l.length := by rw [hp.1]; exact hds
        have hF' : (flatK (fun x : Fs => x.f.cs) 5 d').toList = (d'.toList.map (·.f)).flatMap Fi.cs := flatK_list d'
        have hrow : (sortWorldK (fun x : Fs => x.f.cs) 5 w g 0 m d' os).heap[g]? = some (.cells (putCells id 0 (flatK (fun x : Fs => x.f.cs) 5 d') cur) 36 (0, 0)) := by
          unfold sortWorldK
          rw [heap_grow_old _ _ (by show g < (mapBlock (Sort.ahead w m) g _).heap.size; simpa [mapBlock] using hgl)]
          show ((Sort.ahead w m).heap.modify g _)[g]? = _
          rw [Array.getElem?_modify, if_pos rfl]
          show (w.heap[g]?).map _ = _
          rw [h4]
          rfl
        have hln : (d'.toList.map (·.f)).length = l.length := by rw [List.length_map, Array.length_toList]; exact hsz'
        have hsF : (flatK (fun x : Fs => x.f.cs) 5 d').size = l.length * 5 := by rw [size_flatK, hsz']
        refine ⟨⟨by rw [flat_len Fi.cs_length], .inr ⟨g, c, _, by rw [hln], h3, hrow, by rw [hln]; exact h5, h6, ?_, ?_⟩⟩, ?_⟩
        · unfold putCells
          rw [Array.size_mapIdx]; exact h7
        · rw [hln, ← hF']
          apply List.ext_getElem?
          intro t
          by_cases ht : t < l.length * 5
          · have ht2 : t < (flatK (fun x : Fs => x.f.cs) 5 d').size := by rw [hsF]; exact ht
            have ht3 : t < cur.size := by rw [h7]; omega
            rw [List.getElem?_take_of_lt ht, Array.getElem?_toList, Array.getElem?_toList, Array.getElem?_eq_getElem ht2]
            unfold putCells
            rw [Array.getElem?_mapIdx, Array.getElem?_eq_getElem ht3]
            show some (if 0 ≤ t ∧ t < 0 + _ then _ else _) = _
            rw [if_pos ⟨Nat.zero_le _, by rw [Nat.zero_add]; exact ht2⟩, Nat.sub_zero, getElem!_pos (flatK (fun x : Fs => x.f.cs) 5 d') t ht2]
            rfl
          · rw [List.getElem?_eq_none (by rw [List.length_take]; omega), List.getElem?_eq_none (by rw [Array.length_toList, hsF]; omega)]
        · refine ⟨hb.os, hb.tape, hb.output, ?_, fun k hk => ?_⟩
          · refine Nat.le_trans hb.size ?_
            unfold sortWorldK
            rw [size_grow]
            show w.heap.size ≤ (mapBlock (Sort.ahead w m) g _).heap.size + _
            simp [mapBlock, Sort.ahead]
          · refine Eq.trans ?_ (hb.block k hk)
            unfold sortWorldK
            have hkw : k < w.heap.size := Nat.lt_of_lt_of_le hk hb.size
            rw [heap_grow_old _ _ (by show k < (mapBlock (Sort.ahead w m) g _).heap.size; simpa [mapBlock, Sort.ahead] using hkw)]
            show ((Sort.ahead w m).heap.modify g _)[k]? = _
            rw [Array.getElem?_modify, if_neg (by omega)]
            rfl
end Go.Proofs.YtmnenamdjkjlaaaGreatDoor
