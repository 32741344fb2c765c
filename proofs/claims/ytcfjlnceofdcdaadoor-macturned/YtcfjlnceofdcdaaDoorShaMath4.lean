/- Lists of parts for a purpose told as bytes, and that unlike lists have unlike bytes: plain lists. -/
import Derived.Test.YtcfjlnceofdcdaaDoorShaMath3
namespace Go.Sha
def lens (L : List (List UInt8)) : List UInt8 := (L.map fun s => be s.length 4).flatten
/-- The text whose digest is that of parts for a purpose. -/
def parts (p : UInt8) (L : List (List UInt8)) : List UInt8 := [p] ++ be L.length 4 ++ lens L ++ L.flatten
theorem lens_snoc (L : List (List UInt8)) (s : List UInt8) : lens (L ++ [s]) = lens L ++ be s.length 4 := by simp [lens]
theorem lens_length (L : List (List UInt8)) : (lens L).length = 4 * L.length := by
  induction L with
  | nil => rfl
  | cons s L ih =>
    have : lens (s :: L) = be s.length 4 ++ lens L := rfl
    rw [this, List.length_append, be_length, ih]; simp; omega
theorem byteOf_toNat (y : Int) : ((byteOf y).toNat : Int) = y % 256 := by rw [← wrap_u8]; simp [IntKind.wrap, IntKind.bits, IntKind.signed]
/-- Four bytes tell a small number. -/
theorem be4_inj {m n : Nat} (hm : m < 4294967296) (hn : n < 4294967296) (h : be m 4 = be n 4) : m = n := by
  simp only [be, List.cons.injEq, and_true] at h
  obtain ⟨h3, h2, h1, h0⟩ := h
  have g3 := congrArg (fun c : UInt8 => (c.toNat : Int)) h3
  have g2 := congrArg (fun c : UInt8 => (c.toNat : Int)) h2
  have g1 := congrArg (fun c : UInt8 => (c.toNat : Int)) h1
  have g0 := congrArg (fun c : UInt8 => (c.toNat : Int)) h0
  simp only [byteOf_toNat] at g3 g2 g1 g0
  have e3 : (2 : Int) ^ (8 * 3) = 16777216 := by decide
  have e2 : (2 : Int) ^ (8 * 2) = 65536 := by decide
  have e1 : (2 : Int) ^ (8 * 1) = 256 := by decide
  have e0 : (2 : Int) ^ (8 * 0) = 1 := by decide
  rw [e3] at g3; rw [e2] at g2; rw [e1] at g1; rw [e0] at g0
  omega
/-- Lists of the same lengths, put together the same, are the same. -/
theorem flatten_inj : ∀ (L M : List (List UInt8)), L.length = M.length → (∀ s ∈ L, s.length < 4294967296) → (∀ s ∈ M, s.length < 4294967296) → lens L = lens M → L.flatten = M.flatten → L = M
  | [], [], _, _, _, _, _ => rfl
  | [], _ :: _, h, _, _, _, _ => by simp at h
  | _ :: _, [], h, _, _, _, _ => by simp at h
  | s :: L, t :: M, h, hL, hM, h1, h2 => by
    have e1 : lens (s :: L) = be s.length 4 ++ lens L := rfl
    have e2 : lens (t :: M) = be t.length 4 ++ lens M := rfl
    rw [e1, e2] at h1
    obtain ⟨h3, h4⟩ := List.append_inj h1 (by rw [be_length, be_length])
    have h5 := be4_inj (hL s (by simp)) (hM t (by simp)) h3
    rw [List.flatten_cons, List.flatten_cons] at h2
    obtain ⟨h6, h7⟩ := List.append_inj h2 h5
    rw [h6, flatten_inj L M (by simpa using h) (fun x hx => hL x (by simp [hx])) (fun x hx => hM x (by simp [hx])) h4 h7]
theorem parts_inj {p q : UInt8} {L M : List (List UInt8)} (hl : L.length < 4294967296) (hm : M.length < 4294967296) (hL : ∀ s ∈ L, s.length < 4294967296) (hM : ∀ s ∈ M, s.length < 4294967296) (h : parts p L = parts q M) : p = q ∧ L = M := by
  unfold parts at h
  rw [List.append_assoc, List.append_assoc, List.append_assoc, List.append_assoc] at h
  obtain ⟨h1, h2⟩ := List.append_inj h rfl
  obtain ⟨h3, h4⟩ := List.append_inj h2 (by rw [be_length, be_length])
  have h5 := be4_inj hl hm h3
  obtain ⟨h6, h7⟩ := List.append_inj h4 (by rw [lens_length, lens_length, h5])
  exact ⟨by simpa using h1, flatten_inj L M h5 hL hM h6 h7⟩
end Go.Sha
