/- What was put is taken again: a reader at bytes, numbers, texts and frames that stand there; no program text is named here. -/
import Derived.Test.YtajbhfejjenloaaWireUnframe
namespace Go.Wire
theorem app_list (a b : ByteArray) : (a ++ b).data.toList = a.data.toList ++ b.data.toList := by simp
theorem ext_list {a b : ByteArray} (h : a.data.toList = b.data.toList) : a = b := ByteArray.ext (Array.toList_inj.1 h)
theorem extract_list (s : ByteArray) (a b : Nat) : (s.extract a b).data.toList = (s.data.toList.drop a).take (b - a) := by
  rw [ByteArray.data_extract, Array.toList_extract]
theorem size_list (s : ByteArray) : s.size = s.data.toList.length := by simp
theorem extract_mid (A B C : ByteArray) : (A ++ B ++ C).extract A.size (A.size + B.size) = B := by
  apply ext_list
  rw [extract_list, app_list, app_list, List.append_assoc, size_list A, List.drop_left, Nat.add_sub_cancel_left, size_list B, List.take_left]
theorem extract_end (A B : ByteArray) : (A ++ B).extract A.size (A ++ B).size = B := by
  apply ext_list
  rw [extract_list, app_list, size_list A, List.drop_left, size_list (A ++ B), app_list, List.length_append, Nat.add_sub_cancel_left, List.take_length]
theorem bytes_at {q : St} {A B C : ByteArray} (hs : q.s = A ++ B ++ C) (hp : q.pos = A.size) (he : q.err = 0) (n : Int) (hn : n = B.size) : q.bytes n = (⟨q.s, A.size + B.size, 0⟩, B) := by
  have hz : q.s.size = A.size + B.size + C.size := by rw [hs, ByteArray.size_append, ByteArray.size_append]
  rw [St.bytes_ok q n he (by omega) (by omega), hp, hn, Int.toNat_natCast, hs, extract_mid]
theorem number_at {q : St} {A C : ByteArray} (k n : Nat) (hk : k ≤ 8) (hn : n < 16 ^ (2 * k)) (hs : q.s = A ++ numB (2 * k) n ++ C) (hp : q.pos = A.size) (he : q.err = 0) : q.number k = (⟨q.s, A.size + 2 * k, 0⟩, n) := by
  have hb := bytes_at hs hp he (2 * (k : Int)) (by rw [numB_size]; omega)
  have hv : val (q.bytes (2 * (k : Int))).2.data.toList = some n := by
    rw [hb, numB_list, val_num, Nat.mod_eq_of_lt hn]
  rw [St.number_some q k n (by omega) hv, hb, numB_size]
theorem count_at {q : St} {A C : ByteArray} (n : Nat) (most : Int) (hn : n < 4294967296) (hm : (n : Int) ≤ most) (hs : q.s = A ++ numB 8 n ++ C) (hp : q.pos = A.size) (he : q.err = 0) : q.count most = (⟨q.s, A.size + 8, 0⟩, n) := by
  have h4 : q.number 4 = (⟨q.s, A.size + 8, 0⟩, n) := number_at 4 n (by decide) hn hs hp he
  rw [St.count_yes q most (by rw [h4]; show ¬ (most < 0 ∨ most < (n : Int)); omega), h4]
theorem unframe_at (A t C : ByteArray) (ht : t.size ≤ 1000000) : unframe (A ++ frameB t ++ C) A.size = (t, (A.size : Int) + ((t.size : Int) + 16), 0) := by
  have hz : (A ++ frameB t ++ C).size = A.size + (frameB t).size + C.size := by rw [ByteArray.size_append, ByteArray.size_append]
  have hx := fnv_lt (textB t).data.toList
  have e0 : (A ++ frameB t ++ C).extract A.size (A ++ frameB t ++ C).size = frameB t ++ C := by
    have := extract_end A (frameB t ++ C)
    rwa [← ByteArray.append_assoc] at this
  unfold unframe
  rw [if_neg (by omega), Int.toNat_natCast, e0]
  generalize hX : fnv (textB t).data.toList = X at hx
  have hS : frameB t ++ C = numB 8 t.size ++ numB 8 X ++ t ++ C := by rw [← hX]; rfl
  have h1 : (St.mk (frameB t ++ C) 0 0).f1 = (⟨frameB t ++ C, 8, 0⟩, t.size) := by
    have := count_at (q := St.mk (frameB t ++ C) 0 0) (A := ⟨#[]⟩) (C := numB 8 X ++ t ++ C) t.size 2147483647 (by omega) (by omega) (by show frameB t ++ C = _; rw [hS]; apply ext_list; simp only [app_list]; simp) rfl rfl
    exact this
  have h2 : (St.mk (frameB t ++ C) 0 0).f2 = (⟨frameB t ++ C, 16, 0⟩, X) := by
    unfold St.f2
    rw [h1]
    have := number_at (q := St.mk (frameB t ++ C) 8 0) (A := numB 8 t.size) (C := t ++ C) 4 X (by decide) hx (by show frameB t ++ C = _; rw [hS]; apply ext_list; simp only [app_list]; simp) (by rw [numB_size]) rfl
    rw [numB_size] at this
    exact this
  have h3 : (St.mk (frameB t ++ C) 0 0).f3 = (⟨frameB t ++ C, 16 + t.size, 0⟩, t) := by
    unfold St.f3
    rw [h2, h1]
    have := bytes_at (q := St.mk (frameB t ++ C) 16 0) (A := numB 8 t.size ++ numB 8 X) (B := t) (C := C) hS (by rw [ByteArray.size_append, numB_size, numB_size]) rfl t.size rfl
    rw [ByteArray.size_append, numB_size, numB_size] at this
    exact this
  unfold unf
  rw [h3, h2, if_neg (by simp), if_neg (by simp [hX])]
  show (t, (A.size : Int) + ((16 + t.size : Nat) : Int), (0 : Int)) = _
  rw [show ((A.size : Int) + ((16 + t.size : Nat) : Int)) = (A.size : Int) + ((t.size : Int) + 16) by omega]
/-! ### Frames one behind the other -/
def allF (X : List ByteArray) : ByteArray := X.foldl (fun a x => a ++ frameB x) ⟨#[]⟩
theorem allF_snoc (X : List ByteArray) (x : ByteArray) : allF (X ++ [x]) = allF X ++ frameB x := fold_snoc _ X x _
theorem fold_more (r : List ByteArray) : ∀ a : ByteArray, ∃ C, r.foldl (fun a x => a ++ frameB x) a = a ++ C := by
  induction r with
  | nil => intro a; exact ⟨⟨#[]⟩, by apply ext_list; simp⟩
  | cons x r ih =>
    intro a
    obtain ⟨C, hC⟩ := ih (a ++ frameB x)
    exact ⟨frameB x ++ C, by rw [List.foldl_cons, hC, ByteArray.append_assoc]⟩
theorem allF_split {X : List ByteArray} {i : Nat} {x : ByteArray} (h : X[i]? = some x) : ∃ C, allF X = allF (X.take i) ++ frameB x ++ C := by
  obtain ⟨hi, hx⟩ := List.getElem?_eq_some_iff.1 h
  have e : X = X.take i ++ [x] ++ X.drop (i + 1) := by
    rw [List.append_assoc, List.singleton_append, ← hx, List.getElem_cons_drop, List.take_append_drop]
  obtain ⟨C, hC⟩ := fold_more (X.drop (i + 1)) (allF (X.take i ++ [x]))
  refine ⟨C, ?_⟩
  rw [← allF_snoc, ← hC]
  unfold allF
  rw [← List.foldl_append, ← e]
theorem allF_take {X : List ByteArray} {i : Nat} {x : ByteArray} (h : X[i]? = some x) : allF (X.take (i + 1)) = allF (X.take i) ++ frameB x := by
  rw [List.take_add_one, h]
  exact allF_snoc _ _
theorem fold_size (X : List ByteArray) (hX : ∀ x ∈ X, x.size ≤ 500) : ∀ a : ByteArray, (X.foldl (fun a x => a ++ frameB x) a).size ≤ a.size + 516 * X.length := by
  induction X with
  | nil => intro a; simp
  | cons x r ih =>
    intro a
    have h1 := ih (fun y hy => hX y (List.mem_cons_of_mem _ hy)) (a ++ frameB x)
    have h2 := hX x List.mem_cons_self
    rw [ByteArray.size_append, frameB_size] at h1
    rw [List.foldl_cons, List.length_cons]
    omega
theorem allF_size (X : List ByteArray) (hX : ∀ x ∈ X, x.size ≤ 500) : (allF X).size ≤ 516 * X.length := by
  have := fold_size X hX ⟨#[]⟩
  rw [show (⟨#[]⟩ : ByteArray).size = 0 from rfl, Nat.zero_add] at this
  exact this
end Go.Wire
