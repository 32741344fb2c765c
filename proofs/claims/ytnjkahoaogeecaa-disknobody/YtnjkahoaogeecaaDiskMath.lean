/- Files, what was put into them, and what a loss of power leaves: plain data and functions; lists that rise by names, and the datum of a map that holds such a list; of no program. -/
import Derived.Maps.OwnSet
import Derived.Sort.KeysCollected
namespace Go.Dk
open Go.Maps
abbrev Bs := List UInt8
/-- Bytes as cells. -/
def bs (l : Bs) : List Value := l.map fun c => Value.int .u8 c.toNat
structure Pt where
  s : Bs
  whole : Bool
structure AF where
  name : Bs
  sure : Bs
  settled : Bool
  puts : List Pt
structure Fall where
  on : Int
  keep : Int
  torn : Int
structure A where
  files : List AF
  room : Int
  fall : Option Fall
  changes : Nat
  down : Bool
def app (s : Bs) (p : Pt) : Bs := if p.whole = true then p.s else s ++ p.s
def AF.after (f : AF) (n : Nat) : Bs := (f.puts.take n).foldl app f.sure
def AF.bytes (f : AF) : Bs := f.puts.foldl app f.sure
theorem AF.after_all (f : AF) : f.after f.puts.length = f.bytes := by simp [AF.after, AF.bytes]
def AF.settle (f : AF) (b : Bs) : AF := ⟨f.name, b, true, []⟩
def AF.put (f : AF) (p : Pt) : AF := { f with puts := f.puts ++ [p] }
theorem AF.bytes_put (f : AF) (p : Pt) : (f.put p).bytes = app f.bytes p := by simp [AF.put, AF.bytes]
theorem AF.bytes_settle (f : AF) (b : Bs) : (f.settle b).bytes = b := rfl
/-- May a text be a name? -/
def nameOk (s : Bs) : Bool := decide (0 < s.length) && decide (s.length ≤ 240) && s.all fun c => decide (33 ≤ c.toNat) && decide (c.toNat ≤ 126)
/-- How many of the puts stay. -/
def stays (keep : Int) (n : Nat) : Nat := min keep.toNat n
/-- What is left of a file's bytes, and whether it is there. -/
def AF.left (f : AF) (n : Nat) (torn : Int) : Bs × Bool :=
  match f.puts[n]? with
  | some p => if 0 < torn then (app (f.after n) ⟨p.s.take (if torn < p.s.length / 8 + 1 then 8 * torn.toNat else p.s.length), p.whole⟩, true) else (f.after n, f.settled || decide (0 < n))
  | none => (f.after n, f.settled || decide (0 < n))
def AF.fallen (f : AF) (keep torn : Int) : AF := f.settle (f.left (stays keep f.puts.length) torn).1
def AF.there (f : AF) (keep torn : Int) : Bool := (f.left (stays keep f.puts.length) torn).2
/-! ### lists that rise -/
section
variable {α : Type} (nm : α → Bs)
def ins (f : α) : List α → List α
  | [] => [f]
  | g :: l => if bytesBefore (nm g) (nm f) = true then g :: ins f l else if nm g = nm f then f :: l else f :: g :: l
def del (k : Bs) (l : List α) : List α := l.filter fun g => decide (nm g ≠ k)
def seek (k : Bs) (l : List α) : Option α := l.find? fun g => decide (nm g = k)
def Rises (l : List α) : Prop := l.Pairwise fun f g => bytesBefore (nm f) (nm g) = true
variable {nm}
theorem before_asymm {a b : Bs} (h : bytesBefore a b = true) : bytesBefore b a = false := by
  cases hb : bytesBefore b a
  · rfl
  · have := WideShapes.bytes_trans _ _ _ h hb
    rw [WideAt.bytes_irrefl] at this
    cases this
theorem before_ne {a b : Bs} (h : bytesBefore a b = true) : a ≠ b := fun e => by
  rw [e, WideAt.bytes_irrefl] at h
  cases h
theorem before_of_not {a b : Bs} (h : bytesBefore a b = false) (hne : a ≠ b) : bytesBefore b a = true := by
  rcases WideAt.bytes_total a b hne with h' | h'
  · rw [h] at h'; cases h'
  · exact h'
theorem Rises.tail {g : α} {l : List α} (h : Rises nm (g :: l)) : Rises nm l := (List.pairwise_cons.1 h).2
theorem Rises.head {g : α} {l : List α} (h : Rises nm (g :: l)) : ∀ x ∈ l, bytesBefore (nm g) (nm x) = true := (List.pairwise_cons.1 h).1
/-- Who is in the list behind it: the new one, and the others of other names. -/
theorem mem_ins_iff {f x : α} : ∀ {l : List α}, Rises nm l → (x ∈ ins nm f l ↔ x = f ∨ (x ∈ l ∧ nm x ≠ nm f))
  | [], _ => by simp [ins]
  | g :: l, h => by
    unfold ins
    split
    · rename_i hb
      rw [List.mem_cons, mem_ins_iff h.tail, List.mem_cons]
      constructor
      · rintro (rfl | h' | ⟨h1, h2⟩)
        · exact .inr ⟨.inl rfl, before_ne hb⟩
        · exact .inl h'
        · exact .inr ⟨.inr h1, h2⟩
      · rintro (h' | ⟨rfl | h1, h2⟩)
        · exact .inr (.inl h')
        · exact .inl rfl
        · exact .inr (.inr ⟨h1, h2⟩)
    · rename_i hb
      split
      · rename_i he
        rw [List.mem_cons, List.mem_cons]
        constructor
        · rintro (h' | h')
          · exact .inl h'
          · exact .inr ⟨.inr h', fun e => by have := h.head x h'; rw [e, ← he, WideAt.bytes_irrefl] at this; cases this⟩
        · rintro (h' | ⟨rfl | h1, h2⟩)
          · exact .inl h'
          · exact absurd he h2
          · exact .inr h1
      · rename_i he
        have hfg := before_of_not (by simpa using hb) he
        rw [List.mem_cons, List.mem_cons]
        constructor
        · rintro (h' | rfl | h')
          · exact .inl h'
          · exact .inr ⟨.inl rfl, he⟩
          · exact .inr ⟨.inr h', fun e => by have := WideShapes.bytes_trans _ _ _ hfg (h.head x h'); rw [e, WideAt.bytes_irrefl] at this; cases this⟩
        · rintro (h' | ⟨rfl | h1, h2⟩)
          · exact .inl h'
          · exact .inr (.inl rfl)
          · exact .inr (.inr h1)
theorem Rises.ins {f : α} : ∀ {l : List α}, Rises nm l → Rises nm (ins nm f l)
  | [], _ => by simp [Dk.ins, Rises]
  | g :: l, h => by
    unfold Dk.ins
    split
    · rename_i hb
      refine List.pairwise_cons.2 ⟨fun x hx => ?_, Rises.ins h.tail⟩
      rcases (mem_ins_iff h.tail).1 hx with rfl | ⟨hx, _⟩
      · exact hb
      · exact h.head x hx
    · rename_i hb
      split
      · rename_i he
        exact List.pairwise_cons.2 ⟨fun x hx => by rw [← he]; exact h.head x hx, h.tail⟩
      · rename_i he
        have hfg := before_of_not (by simpa using hb) he
        refine List.pairwise_cons.2 ⟨fun x hx => ?_, h⟩
        rcases List.mem_cons.1 hx with rfl | hx
        · exact hfg
        · exact WideShapes.bytes_trans _ _ _ hfg (h.head x hx)
theorem Rises.del {k : Bs} {l : List α} (h : Rises nm l) : Rises nm (del nm k l) := List.Pairwise.filter _ h
theorem mem_del {k : Bs} {l : List α} {x : α} : x ∈ del nm k l ↔ x ∈ l ∧ nm x ≠ k := by simp [del]
theorem seek_some {k : Bs} {l : List α} {x : α} (h : seek nm k l = some x) : x ∈ l ∧ nm x = k := ⟨List.mem_of_find?_eq_some h, by simpa using List.find?_some h⟩
theorem seek_none {k : Bs} {l : List α} (h : seek nm k l = none) : ∀ x ∈ l, nm x ≠ k := fun x hx => by simpa using List.find?_eq_none.1 h x hx
theorem seek_mem {x : α} : ∀ {l : List α}, Rises nm l → x ∈ l → seek nm (nm x) l = some x
  | [], _, hx => by cases hx
  | g :: l, h, hx => by
    unfold seek
    rw [List.find?_cons]
    rcases List.mem_cons.1 hx with rfl | hx
    · simp
    · have : nm g ≠ nm x := before_ne (h.head x hx)
      simp only [this, decide_false]
      exact seek_mem h.tail hx
/-- Members of one name are one. -/
theorem Rises.one {x y : α} {l : List α} (h : Rises nm l) (hx : x ∈ l) (hy : y ∈ l) (e : nm x = nm y) : x = y := by
  have h1 := seek_mem h hx
  rw [e, seek_mem h hy] at h1
  exact (Option.some.inj h1).symm
theorem Rises.nodup {l : List α} (h : Rises nm l) : l.Nodup := List.Pairwise.imp (fun {a b} hab e => by rw [e, WideAt.bytes_irrefl] at hab; cases hab) h
theorem length_ins (f : α) : ∀ l : List α, (ins nm f l).length ≤ l.length + 1
  | [] => by simp [ins]
  | g :: l => by
    unfold ins
    split
    · simp only [List.length_cons]; have := length_ins f l; omega
    · split <;> simp only [List.length_cons] <;> omega
theorem length_del (k : Bs) (l : List α) : (del nm k l).length ≤ l.length := List.length_filter_le _ _
end
/-! ### the datum of a map -/
section
variable {α : Type} (nm : α → Bs) (bk : α → Nat)
def Dof (l : List α) : DataW Unit := .map (l.map fun f => (.string (nm f), .lit (.int .i64 (bk f))))
variable {nm bk}
theorem before_str (a b : Bs) : (Lit.string a).before (.string b) = bytesBefore a b := rfl
theorem same_str (a b : Bs) : (Lit.string a).sameKey (.string b) = decide (a = b) := by
  show (a == b) = decide (a = b)
  cases h : a == b
  · have : a ≠ b := by simpa using h
    simp [this]
  · have : a = b := by simpa using h
    simp [this]
theorem keep_all {k : Bs} {l : List α} (h : ∀ x ∈ l, nm x ≠ k) : (l.map fun f => ((Lit.string (nm f), DataW.lit (H := Unit) (.int .i64 (bk f))) : Lit × DataW Unit)).filter (fun p => !p.1.sameKey (.string k)) = l.map fun f => (.string (nm f), .lit (.int .i64 (bk f))) := by
  refine List.filter_eq_self.2 fun p hp => ?_
  obtain ⟨x, hx, rfl⟩ := List.mem_map.1 hp
  simp only [same_str]
  simp [h x hx]
theorem Dof_ins (f : α) : ∀ {l : List α}, Rises nm l → (Dof nm bk l).put (.string (nm f)) (.lit (.int .i64 (bk f))) = Dof nm bk (ins nm f l) := by
  suffices H : ∀ {l : List α}, Rises nm l → DataW.insert (Lit.string (nm f), DataW.lit (.int .i64 (bk f))) ((l.map fun f => ((Lit.string (nm f), DataW.lit (.int .i64 (bk f))) : Lit × DataW Unit)).filter (fun p => !p.1.sameKey (.string (nm f)))) = (ins nm f l).map fun f => (.string (nm f), .lit (.int .i64 (bk f))) from fun {l} h => congrArg DataW.map (H h)
  intro l
  induction l with
  | nil => intro _; rfl
  | cons g l ih =>
    intro h
    unfold ins
    split
    · rename_i hb
      have hne := before_ne hb
      rw [List.map_cons, List.filter_cons]
      simp only [same_str, hne, decide_false, Bool.not_false, if_true, List.map_cons]
      show (if (Lit.string (nm f)).before (.string (nm g)) = true then _ else _) = _
      rw [before_str, before_asymm hb]
      simp only [Bool.false_eq_true, if_false]
      rw [ih h.tail]
    · rename_i hb
      have front : ∀ r : List α, (∀ x ∈ r, bytesBefore (nm f) (nm x) = true) → DataW.insert (Lit.string (nm f), DataW.lit (.int .i64 (bk f))) (r.map fun f => ((Lit.string (nm f), DataW.lit (.int .i64 (bk f))) : Lit × DataW Unit)) = (f :: r).map fun f => (.string (nm f), .lit (.int .i64 (bk f))) := by
        intro r hr
        cases r with
        | nil => rfl
        | cons y r =>
          show (if (Lit.string (nm f)).before (.string (nm y)) = true then _ else _) = _
          rw [before_str, hr y (by simp)]
          rfl
      split
      · rename_i he
        have hl : ∀ x ∈ l, bytesBefore (nm f) (nm x) = true := fun x hx => by rw [← he]; exact h.head x hx
        rw [List.map_cons, List.filter_cons]
        simp only [same_str, he, decide_true, Bool.not_true, Bool.false_eq_true, if_false]
        have hk := keep_all (nm := nm) (bk := bk) (k := nm f) (l := l) (fun x hx e => by have := hl x hx; rw [e, WideAt.bytes_irrefl] at this; cases this)
        rw [hk, front l hl]
      · rename_i he
        have hfg := before_of_not (by simpa using hb) he
        have hl : ∀ x ∈ g :: l, bytesBefore (nm f) (nm x) = true := fun x hx => by
          rcases List.mem_cons.1 hx with rfl | hx
          · exact hfg
          · exact WideShapes.bytes_trans _ _ _ hfg (h.head x hx)
        rw [keep_all (nm := nm) (bk := bk) (k := nm f) (l := g :: l) (fun x hx e => by have := hl x hx; rw [e, WideAt.bytes_irrefl] at this; cases this), front _ hl]
theorem Dof_del (k : Bs) (l : List α) : (Dof nm bk l).del (.string k) = Dof nm bk (del nm k l) := by
  refine congrArg DataW.map ?_
  unfold del
  rw [List.filter_map]
  congr 1
  refine List.filter_congr fun x _ => ?_
  show (!(Lit.string (nm x)).sameKey (.string k)) = _
  rw [same_str]
  by_cases h : nm x = k <;> simp [h]
theorem Dof_has (k : Bs) (l : List α) : has (Dof nm bk l) (.string k) = (seek nm k l).isSome := by
  show (l.map _).any _ = _
  rw [List.any_map]
  unfold seek
  induction l with
  | nil => rfl
  | cons g l ih =>
    rw [List.any_cons, List.find?_cons, ih]
    show ((Lit.string (nm g)).sameKey (.string k) || _) = _
    rw [same_str]
    cases decide (nm g = k) <;> rfl
theorem Dof_at (k : Bs) (l : List α) (z : DataW Unit) : (Dof nm bk l).atKey (.string k) z = match seek nm k l with | some f => .lit (.int .i64 (bk f)) | none => z := by
  unfold DataW.atKey Dof
  simp only
  rw [List.find?_map]
  unfold seek
  have : ((fun p : Lit × DataW Unit => p.1.sameKey (.string k)) ∘ fun f => (Lit.string (nm f), DataW.lit (.int .i64 (bk f)))) = fun g => decide (nm g = k) := by
    funext g
    show (Lit.string (nm g)).sameKey (.string k) = _
    rw [same_str]
  rw [this]
  cases l.find? (fun g => decide (nm g = k)) <;> rfl
theorem strKeys_Dof (l : List α) : strKeys (Dof nm bk l) = l.map nm := by
  show (l.map _).map _ = _
  rw [List.map_map]
  rfl
theorem size_Dof (l : List α) : size (Dof nm bk l) = l.length := by
  show (l.map _).length = _
  simp
end
end Go.Dk
