/- A map with keys of any kind that the library can tell apart, told as a function from what its keys stand for; of no program. -/
import Derived.Test.YtpihgffcfoelbaaDoorMapFun
import Derived.DeepKeys4
namespace Go.MapFun
open Go.RowKit Go.Maps
variable {κ α : Type} {E : Enc α} {P : Program} {k T X N : Nat} {w : World} {b : Nat} {kv : κ → Value} {f : κ → Option α}
/-- Block b is a map that holds f, with at most N entries. -/
def MapG (P : Program) (k : TypeId) (kv : κ → Value) (E : Enc α) (N : Nat) (w : World) (b : Nat) (f : κ → Option α) : Prop :=
  ∃ n D, n ≤ N ∧ w.ownsMap P k E.R b n D ∧ IsMap D ∧ ∀ x l, keyOf P k (kv x) = some l → ∀ z, D.atKey l z = match f x with | some a => E.d a | none => z
theorem MapG.made (P : Program) (k : TypeId) (kv : κ → Value) (E : Enc α) (w : World) : MapG P k kv E 0 (w.alloc (.map #[] 0)) w.heap.size (fun _ => none) :=
  ⟨0, .map [], Nat.le_refl _, World.ownsMap_made w P k E.R, ⟨[], rfl⟩, fun _ _ _ _ => rfl⟩
theorem MapG.mono (h : MapG P k kv E N w b f) {N' : Nat} (hN : N ≤ N') : MapG P k kv E N' w b f := by
  obtain ⟨n, D, h1, h2⟩ := h
  exact ⟨n, D, Nat.le_trans h1 hN, h2⟩
theorem MapG.lt (h : MapG P k kv E N w b f) : b < w.heap.size := by obtain ⟨n, D, _, h, _⟩ := h; exact h.lt
theorem MapG.kept {w' : World} (h : MapG P k kv E N w b f) (hb : w'.heap[b]? = w.heap[b]?) : MapG P k kv E N w' b f := by
  obtain ⟨n, D, h1, ⟨es, cl, h3, h4⟩, h5⟩ := h
  exact ⟨n, D, h1, ⟨es, cl, hb.trans h3, h4⟩, h5⟩
theorem MapG.below {w' : World} {B : Nat} (h : MapG P k kv E N w b f) (hB : b < B) (hb : Below B w w') : MapG P k kv E N w' b f := h.kept (hb.block _ hB)
theorem MapG.kind (h : MapG P k kv E N w b f) : ∃ es cl, w.heap[b]? = some (.map es cl) := by
  obtain ⟨n, D, h1, ⟨es, cl, h3, h4⟩, h5⟩ := h
  exact ⟨es, cl, h3⟩
theorem MapG.look (h : MapG P k kv E N w b f) (K : Keyed P k) (hT : P.underlying T = some (.map k X)) {z : Value} (hz : (zeroValue X).run P w = .ok z w) (c : Bool) (x : κ) {l : Lit} (hkey : keyOf P k (kv x) = some l) :
    (Instr.lookup T (.map (some b)) (kv x) c).run P w = .ok (got c z E (f x)) w := by
  obtain ⟨n, D, hn, ⟨es, cl, hb, F, _, hD⟩, _, hat⟩ := h
  have ha := hat x l hkey
  rcases Maps.fit_look c K hT hz hb F hkey with ⟨hrun, _, h1⟩ | ⟨e0, y, _, _, hrun, hRv, h1, _⟩
  · rw [hrun]
    have e1 := h1 .nil
    rw [← hD, ha .nil] at e1
    cases hx : f x with
    | none => rfl
    | some a => rw [hx] at e1; exact absurd e1 (E.ne a)
  · rw [hrun]
    obtain ⟨a', hv, rfl⟩ := E.inv _ _ hRv
    have e1 := h1 .nil
    rw [← hD, ha .nil] at e1
    cases hx : f x with
    | none => rw [hx] at e1; exact absurd e1.symm (E.ne a')
    | some a =>
      rw [hx] at e1
      obtain rfl := E.inj _ _ e1
      rw [hv]
      rfl
theorem MapG.update [DecidableEq κ] (h : MapG P k kv E N w b f) (K : Keyed P k) (hT : P.underlying T = some (.map k X)) (hinj : ∀ x y, kv x = kv y → x = y) (hN : N < maxLen) (x : κ) {l : Lit} (hkey : keyOf P k (kv x) = some l) (a : α) :
    ∃ w', (Instr.mapUpdate T (.map (some b)) (kv x) (E.v a)).run P w = .ok () w' ∧ MapG P k kv E (N + 1) w' b (fun t => if t = x then some a else f t) ∧ w.grownBy w' (some b) := by
  obtain ⟨n, D, hn, ho, hm, hat⟩ := h
  obtain ⟨w', hrun, ho', hg⟩ := ho.update K hT (Nat.lt_of_le_of_lt hn hN) hkey (E.reads a)
  refine ⟨w', hrun, ⟨n + 1, _, by omega, ho', ?_, fun t lt ht z => ?_⟩, hg⟩
  · exact hm.put _ _
  · by_cases e : t = x
    · subst e
      simp only [if_true]
      rw [hkey] at ht
      cases ht
      exact atKey_put_same hm (K.key hkey) _ _
    · simp only [e, if_false]
      rw [atKey_put_other (fun h => e (hinj t x (K.inj ht (by rw [h]; exact hkey))))]
      exact hat t lt ht z
/-- How an element of type struct{} is told. -/
def unE : Enc Unit where
  R := unitElem
  v _ := .agg #[]
  d _ := .agg []
  reads _ := unitElem_mk
  inv x y h := ⟨(), (unitElem_inv h).1, (unitElem_inv h).2⟩
  inj _ _ _ := rfl
  ne _ h := by cases h
def rI : Value → Option (DataW Unit × List MemPlace)
  | .int .i64 a => some (.lit (.int .i64 a), [])
  | _ => none
/-- An int. -/
def i64E : Enc Int where
  R := rI
  v a := .int .i64 a
  d a := .lit (.int .i64 a)
  reads _ := rfl
  inv x y h := by
    unfold rI at h
    split at h
    · exact ⟨_, rfl, (Option.some.inj h).symm⟩
    · cases h
  inj a b h := by
    simp only [DataW.lit.injEq, Lit.int.injEq, true_and] at h
    exact h
  ne a h := by cases h
def rB : Value → Option (DataW Unit × List MemPlace)
  | .bool a => some (.lit (.bool a), [])
  | _ => none
/-- A bool. -/
def boolE : Enc Bool where
  R := rB
  v a := .bool a
  d a := .lit (.bool a)
  reads _ := rfl
  inv x y h := by
    unfold rB at h
    split at h
    · exact ⟨_, rfl, (Option.some.inj h).symm⟩
    · cases h
  inj a b h := by
    simp only [DataW.lit.injEq, Lit.bool.injEq] at h
    exact h
  ne a h := by cases h
end Go.MapFun
