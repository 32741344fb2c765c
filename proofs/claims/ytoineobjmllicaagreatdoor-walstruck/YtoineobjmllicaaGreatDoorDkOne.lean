/- Several texts in one: DiskMath, DiskRows, DiskFile. -/
import Derived.Maps.OwnSet
import Derived.Sort.KeysCollected
import Derived.Test.YtoineobjmllicaaGreatDoorShaPure
import Derived.WalkKit
import Derived.Lib.AppendStr
import Derived.Maps.AppendAt
import Derived.Deep.Heap
import Derived.Deep.Draws
/- Files, what was put into them, and what a loss of power leaves: plain data and functions; lists that rise by names, and the datum of a map that holds such a list; of no program. -/
namespace Go.Dk
open Go.Maps
abbrev Bs := List UInt8
/-- Bytes as cells. -/
def bs (l : Bs) : List Value := l.map fun c => Value.int .u8 c.toNat
structure Pt where
  s : Bs
  whole : Bool
structure AF where
  name : Bs
  sure : Bs
  settled : Bool
  puts : List Pt
structure Fall where
  on : Int
  keep : Int
  torn : Int
structure A where
  files : List AF
  room : Int
  fall : Option Fall
  changes : Nat
  down : Bool
def app (s : Bs) (p : Pt) : Bs := if p.whole = true then p.s else s ++ p.s
def AF.after (f : AF) (n : Nat) : Bs := (f.puts.take n).foldl app f.sure
def AF.bytes (f : AF) : Bs := f.puts.foldl app f.sure
theorem AF.after_all (f : AF) : f.after f.puts.length = f.bytes := by simp [AF.after, AF.bytes]
def AF.settle (f : AF) (b : Bs) : AF := ⟨f.name, b, true, []⟩
def AF.put (f : AF) (p : Pt) : AF := { f with puts := f.puts ++ [p] }
theorem AF.bytes_put (f : AF) (p : Pt) : (f.put p).bytes = app f.bytes p := by simp [AF.put, AF.bytes]
theorem AF.bytes_settle (f : AF) (b : Bs) : (f.settle b).bytes = b := rfl
/-- May a text be a name? -/
def nameOk (s : Bs) : Bool := decide (0 < s.length) && decide (s.length ≤ 240) && s.all fun c => decide (33 ≤ c.toNat) && decide (c.toNat ≤ 126)
/-- How many of the puts stay. -/
def stays (keep : Int) (n : Nat) : Nat := min keep.toNat n
/-- What is left of a file's bytes, and whether it is there. -/
def AF.left (f : AF) (n : Nat) (torn : Int) : Bs × Bool :=
  match f.puts[n]? with
  | some p => if 0 < torn then (app (f.after n) ⟨p.s.take (if torn < p.s.length / 8 + 1 then 8 * torn.toNat else p.s.length), p.whole⟩, true) else (f.after n, f.settled || decide (0 < n))
  | none => (f.after n, f.settled || decide (0 < n))
def AF.fallen (f : AF) (keep torn : Int) : AF := f.settle (f.left (stays keep f.puts.length) torn).1
def AF.there (f : AF) (keep torn : Int) : Bool := (f.left (stays keep f.puts.length) torn).2
/-! ### lists that rise -/
section
variable {α : Type} (nm : α → Bs)
def ins (f : α) : List α → List α
  | [] => [f]
  | g :: l => if bytesBefore (nm g) (nm f) = true then g :: ins f l else if nm g = nm f then f :: l else f :: g :: l
def del (k : Bs) (l : List α) : List α := l.filter fun g => decide (nm g ≠ k)
def seek (k : Bs) (l : List α) : Option α := l.find? fun g => decide (nm g = k)
def Rises (l : List α) : Prop := l.Pairwise fun f g => bytesBefore (nm f) (nm g) = true
variable {nm}
theorem before_asymm {a b : Bs} (h : bytesBefore a b = true) : bytesBefore b a = false := by
  cases hb : bytesBefore b a
  · rfl
  · have := WideShapes.bytes_trans _ _ _ h hb
    rw [WideAt.bytes_irrefl] at this
    cases this
theorem before_ne {a b : Bs} (h : bytesBefore a b = true) : a ≠ b := fun e => by
  rw [e, WideAt.bytes_irrefl] at h
  cases h
theorem before_of_not {a b : Bs} (h : bytesBefore a b = false) (hne : a ≠ b) : bytesBefore b a = true := by
  rcases WideAt.bytes_total a b hne with h' | h'
  · rw [h] at h'; cases h'
  · exact h'
theorem Rises.tail {g : α} {l : List α} (h : Rises nm (g :: l)) : Rises nm l := (List.pairwise_cons.1 h).2
theorem Rises.head {g : α} {l : List α} (h : Rises nm (g :: l)) : ∀ x ∈ l, bytesBefore (nm g) (nm x) = true := (List.pairwise_cons.1 h).1
/-- Who is in the list behind it: the new one, and the others of other names. -/
theorem mem_ins_iff {f x : α} : ∀ {l : List α}, Rises nm l → (x ∈ ins nm f l ↔ x = f ∨ (x ∈ l ∧ nm x ≠ nm f))
  | [], _ => by simp [ins]
  | g :: l, h => by
    unfold ins
    split
    · rename_i hb
      rw [List.mem_cons, mem_ins_iff h.tail, List.mem_cons]
      constructor
      · rintro (rfl | h' | ⟨h1, h2⟩)
        · exact .inr ⟨.inl rfl, before_ne hb⟩
        · exact .inl h'
        · exact .inr ⟨.inr h1, h2⟩
      · rintro (h' | ⟨rfl | h1, h2⟩)
        · exact .inr (.inl h')
        · exact .inl rfl
        · exact .inr (.inr ⟨h1, h2⟩)
    · rename_i hb
      split
      · rename_i he
        rw [List.mem_cons, List.mem_cons]
        constructor
        · rintro (h' | h')
          · exact .inl h'
          · exact .inr ⟨.inr h', fun e => by have := h.head x h'; rw [e, ← he, WideAt.bytes_irrefl] at this; cases this⟩
        · rintro (h' | ⟨rfl | h1, h2⟩)
          · exact .inl h'
          · exact absurd he h2
          · exact .inr h1
      · rename_i he
        have hfg := before_of_not (by simpa using hb) he
        rw [List.mem_cons, List.mem_cons]
        constructor
        · rintro (h' | rfl | h')
          · exact .inl h'
          · exact .inr ⟨.inl rfl, he⟩
          · exact .inr ⟨.inr h', fun e => by have := WideShapes.bytes_trans _ _ _ hfg (h.head x h'); rw [e, WideAt.bytes_irrefl] at this; cases this⟩
        · rintro (h' | ⟨rfl | h1, h2⟩)
          · exact .inl h'
          · exact .inr (.inl rfl)
          · exact .inr (.inr h1)
theorem Rises.ins {f : α} : ∀ {l : List α}, Rises nm l → Rises nm (ins nm f l)
  | [], _ => by simp [Dk.ins, Rises]
  | g :: l, h => by
    unfold Dk.ins
    split
    · rename_i hb
      refine List.pairwise_cons.2 ⟨fun x hx => ?_, Rises.ins h.tail⟩
      rcases (mem_ins_iff h.tail).1 hx with rfl | ⟨hx, _⟩
      · exact hb
      · exact h.head x hx
    · rename_i hb
      split
      · rename_i he
        exact List.pairwise_cons.2 ⟨fun x hx => by rw [← he]; exact h.head x hx, h.tail⟩
      · rename_i he
        have hfg := before_of_not (by simpa using hb) he
        refine List.pairwise_cons.2 ⟨fun x hx => ?_, h⟩
        rcases List.mem_cons.1 hx with rfl | hx
        · exact hfg
        · exact WideShapes.bytes_trans _ _ _ hfg (h.head x hx)
theorem Rises.del {k : Bs} {l : List α} (h : Rises nm l) : Rises nm (del nm k l) := List.Pairwise.filter _ h
theorem mem_del {k : Bs} {l : List α} {x : α} : x ∈ del nm k l ↔ x ∈ l ∧ nm x ≠ k := by simp [del]
theorem seek_some {k : Bs} {l : List α} {x : α} (h : seek nm k l = some x) : x ∈ l ∧ nm x = k := ⟨List.mem_of_find?_eq_some h, by simpa using List.find?_some h⟩
theorem seek_none {k : Bs} {l : List α} (h : seek nm k l = none) : ∀ x ∈ l, nm x ≠ k := fun x hx => by simpa using List.find?_eq_none.1 h x hx
theorem seek_mem {x : α} : ∀ {l : List α}, Rises nm l → x ∈ l → seek nm (nm x) l = some x
  | [], _, hx => by cases hx
  | g :: l, h, hx => by
    unfold seek
    rw [List.find?_cons]
    rcases List.mem_cons.1 hx with rfl | hx
    · simp
    · have : nm g ≠ nm x := before_ne (h.head x hx)
      simp only [this, decide_false]
      exact seek_mem h.tail hx
/-- Members of one name are one. -/
theorem Rises.one {x y : α} {l : List α} (h : Rises nm l) (hx : x ∈ l) (hy : y ∈ l) (e : nm x = nm y) : x = y := by
  have h1 := seek_mem h hx
  rw [e, seek_mem h hy] at h1
  exact (Option.some.inj h1).symm
theorem Rises.nodup {l : List α} (h : Rises nm l) : l.Nodup := List.Pairwise.imp (fun {a b} hab e => by rw [e, WideAt.bytes_irrefl] at hab; cases hab) h
theorem length_ins (f : α) : ∀ l : List α, (ins nm f l).length ≤ l.length + 1
  | [] => by simp [ins]
  | g :: l => by
    unfold ins
    split
    · simp only [List.length_cons]; have := length_ins f l; omega
    · split <;> simp only [List.length_cons] <;> omega
theorem length_del (k : Bs) (l : List α) : (del nm k l).length ≤ l.length := List.length_filter_le _ _
end
/-! ### the datum of a map -/
section
variable {α : Type} (nm : α → Bs) (bk : α → Nat)
def Dof (l : List α) : DataW Unit := .map (l.map fun f => (.string (nm f), .lit (.int .i64 (bk f))))
variable {nm bk}
theorem before_str (a b : Bs) : (Lit.string a).before (.string b) = bytesBefore a b := rfl
theorem same_str (a b : Bs) : (Lit.string a).sameKey (.string b) = decide (a = b) := by
  show (a == b) = decide (a = b)
  cases h : a == b
  · have : a ≠ b := by simpa using h
    simp [this]
  · have : a = b := by simpa using h
    simp [this]
theorem keep_all {k : Bs} {l : List α} (h : ∀ x ∈ l, nm x ≠ k) : (l.map fun f => ((Lit.string (nm f), DataW.lit (H := Unit) (.int .i64 (bk f))) : Lit × DataW Unit)).filter (fun p => !p.1.sameKey (.string k)) = l.map fun f => (.string (nm f), .lit (.int .i64 (bk f))) := by
  refine List.filter_eq_self.2 fun p hp => ?_
  obtain ⟨x, hx, rfl⟩ := List.mem_map.1 hp
  simp only [same_str]
  simp [h x hx]
theorem Dof_ins (f : α) : ∀ {l : List α}, Rises nm l → (Dof nm bk l).put (.string (nm f)) (.lit (.int .i64 (bk f))) = Dof nm bk (ins nm f l) := by
  suffices H : ∀ {l : List α}, Rises nm l → DataW.insert (Lit.string (nm f), DataW.lit (.int .i64 (bk f))) ((l.map fun f => ((Lit.string (nm f), DataW.lit (.int .i64 (bk f))) : Lit × DataW Unit)).filter (fun p => !p.1.sameKey (.string (nm f)))) = (ins nm f l).map fun f => (.string (nm f), .lit (.int .i64 (bk f))) from fun {l} h => congrArg DataW.map (H h)
  intro l
  induction l with
  | nil => intro _; rfl
  | cons g l ih =>
    intro h
    unfold ins
    split
    · rename_i hb
      have hne := before_ne hb
      rw [List.map_cons, List.filter_cons]
      simp only [same_str, hne, decide_false, Bool.not_false, if_true, List.map_cons]
      show (if (Lit.string (nm f)).before (.string (nm g)) = true then _ else _) = _
      rw [before_str, before_asymm hb]
      simp only [Bool.false_eq_true, if_false]
      rw [ih h.tail]
    · rename_i hb
      have front : ∀ r : List α, (∀ x ∈ r, bytesBefore (nm f) (nm x) = true) → DataW.insert (Lit.string (nm f), DataW.lit (.int .i64 (bk f))) (r.map fun f => ((Lit.string (nm f), DataW.lit (.int .i64 (bk f))) : Lit × DataW Unit)) = (f :: r).map fun f => (.string (nm f), .lit (.int .i64 (bk f))) := by
        intro r hr
        cases r with
        | nil => rfl
        | cons y r =>
          show (if (Lit.string (nm f)).before (.string (nm y)) = true then _ else _) = _
          rw [before_str, hr y (by simp)]
          rfl
      split
      · rename_i he
        have hl : ∀ x ∈ l, bytesBefore (nm f) (nm x) = true := fun x hx => by rw [← he]; exact h.head x hx
        rw [List.map_cons, List.filter_cons]
        simp only [same_str, he, decide_true, Bool.not_true, Bool.false_eq_true, if_false]
        have hk := keep_all (nm := nm) (bk := bk) (k := nm f) (l := l) (fun x hx e => by have := hl x hx; rw [e, WideAt.bytes_irrefl] at this; cases this)
        rw [hk, front l hl]
      · rename_i he
        have hfg := before_of_not (by simpa using hb) he
        have hl : ∀ x ∈ g :: l, bytesBefore (nm f) (nm x) = true := fun x hx => by
          rcases List.mem_cons.1 hx with rfl | hx
          · exact hfg
          · exact WideShapes.bytes_trans _ _ _ hfg (h.head x hx)
        rw [keep_all (nm := nm) (bk := bk) (k := nm f) (l := g :: l) (fun x hx e => by have := hl x hx; rw [e, WideAt.bytes_irrefl] at this; cases this), front _ hl]
theorem Dof_del (k : Bs) (l : List α) : (Dof nm bk l).del (.string k) = Dof nm bk (del nm k l) := by
  refine congrArg DataW.map ?_
  unfold del
  rw [List.filter_map]
  congr 1
  refine List.filter_congr fun x _ => ?_
  show (!(Lit.string (nm x)).sameKey (.string k)) = _
  rw [same_str]
  by_cases h : nm x = k <;> simp [h]
theorem Dof_has (k : Bs) (l : List α) : has (Dof nm bk l) (.string k) = (seek nm k l).isSome := by
  show (l.map _).any _ = _
  rw [List.any_map]
  unfold seek
  induction l with
  | nil => rfl
  | cons g l ih =>
    rw [List.any_cons, List.find?_cons, ih]
    show ((Lit.string (nm g)).sameKey (.string k) || _) = _
    rw [same_str]
    cases decide (nm g = k) <;> rfl
theorem Dof_at (k : Bs) (l : List α) (z : DataW Unit) : (Dof nm bk l).atKey (.string k) z = match seek nm k l with | some f => .lit (.int .i64 (bk f)) | none => z := by
  unfold DataW.atKey Dof
  simp only
  rw [List.find?_map]
  unfold seek
  have : ((fun p : Lit × DataW Unit => p.1.sameKey (.string k)) ∘ fun f => (Lit.string (nm f), DataW.lit (.int .i64 (bk f)))) = fun g => decide (nm g = k) := by
    funext g
    show (Lit.string (nm g)).sameKey (.string k) = _
    rw [same_str]
  rw [this]
  cases l.find? (fun g => decide (nm g = k)) <;> rfl
theorem strKeys_Dof (l : List α) : strKeys (Dof nm bk l) = l.map nm := by
  show (l.map _).map _ = _
  rw [List.map_map]
  rfl
theorem size_Dof (l : List α) : size (Dof nm bk l) = l.length := by
  show (l.map _).length = _
  simp
end
end Go.Dk
/- A file as it lies in memory: its struct, its rows of bytes (one may lie at another's beginning), its row of pieces; what an append does to them; what stays when other blocks turn; of no program but for the numbers of its types. -/
namespace Go.Dk
open Go.RowKit
/-! ### what turns -/
/-- From w to w' nothing turns but blocks of X and new ones. -/
structure Tch (X : Nat → Prop) (w w' : World) : Prop where
  os : w'.os = w.os
  tape : w'.tape = w.tape
  output : w'.output = w.output
  size : w.heap.size ≤ w'.heap.size
  block : ∀ b, b < w.heap.size → ¬ X b → w'.heap[b]? = w.heap[b]?
theorem Tch.refl (X : Nat → Prop) (w : World) : Tch X w w := ⟨rfl, rfl, rfl, Nat.le_refl _, fun _ _ _ => rfl⟩
theorem Tch.trans {X Y Z : Nat → Prop} {w w' w'' : World} (h : Tch X w w') (k : Tch Y w' w'') (hX : ∀ b, X b → Z b) (hY : ∀ b, b < w.heap.size → Y b → Z b) : Tch Z w w'' :=
  ⟨k.os.trans h.os, k.tape.trans h.tape, k.output.trans h.output, Nat.le_trans h.size k.size, fun b hb hz => (k.block b (Nat.lt_of_lt_of_le hb h.size) fun y => hz (hY b hb y)).trans (h.block b hb fun x => hz (hX b x))⟩
theorem Tch.mono {X Z : Nat → Prop} {w w' : World} (h : Tch X w w') (hX : ∀ b, X b → Z b) : Tch Z w w' := ⟨h.os, h.tape, h.output, h.size, fun b hb hz => h.block b hb fun x => hz (hX b x)⟩
theorem Tch.and {X : Nat → Prop} {w w' w'' : World} (h : Tch X w w') (k : Tch X w' w'') : Tch X w w'' := h.trans k (fun _ x => x) (fun _ _ x => x)
theorem Tch.of_below {X : Nat → Prop} {w w' : World} (h : Below w.heap.size w w') : Tch X w w' := ⟨h.os, h.tape, h.output, h.size, fun b hb _ => h.block b hb⟩
theorem Tch.of_grown {X : Nat → Prop} {w w' : World} {r : Option Nat} (h : w.grownBy w' r) (hr : ∀ b, r = some b → X b) : Tch X w w' := ⟨h.os, h.tape, h.output, h.size, fun b hb hx => h.block b hb fun e => hx (hr b e.symm)⟩
theorem Tch.alloc (X : Nat → Prop) (w : World) (o : Obj) : Tch X w (w.alloc o) := .of_below ((Below.refl _ _).alloc (Nat.le_refl _) o)
theorem Tch.drew {X : Nat → Prop} {w w' : World} (h : Tch X w w') : Tch X w w'.drew := ⟨h.os, h.tape, h.output, h.size, h.block⟩
theorem Tch.drewN {X : Nat → Prop} {w w' : World} (h : Tch X w w') (n : Nat) : Tch X w (w'.drewN n) := ⟨h.os, h.tape, h.output, h.size, h.block⟩
theorem Tch.set (X : Nat → Prop) (w : World) (a : Addr) (v : Value) (ha : X a.block) : Tch X w (w.setCell a v) :=
  ⟨rfl, rfl, rfl, by rw [Deep.nblk_setCell]; exact Nat.le_refl _, fun b _ hx => Deep.blk_setCell_other _ _ _ _ fun e => hx (e ▸ ha)⟩
theorem Tch.turned {X : Nat → Prop} {w w' : World} {b : Nat} (h : w.mapTurned w' b) (hb : X b) : Tch X w w' := .of_grown h.grown fun c e => by cases e; exact hb
theorem Tch.below {X : Nat → Prop} {B : Nat} {w w' : World} (h : Tch X w w') (hX : ∀ b, X b → B ≤ b) (hB : B ≤ w.heap.size) : Below B w w' :=
  ⟨h.os, h.tape, h.output, h.size, fun b hb => h.block b (Nat.lt_of_lt_of_le hb hB) fun x => Nat.lt_irrefl _ (Nat.lt_of_lt_of_le hb (hX b x))⟩
/-! ### rows of bytes -/
theorem bs_length (l : Bs) : (bs l).length = l.length := by simp [bs]
theorem bs_append (a b : Bs) : bs (a ++ b) = bs a ++ bs b := by simp [bs]
theorem bs_str (s : ByteArray) : Lib.strCells s = bs s.data.toList := rfl
theorem block_lt {w : World} {b : Nat} {o : Obj} (h : w.heap[b]? = some o) : b < w.heap.size := (Array.getElem?_eq_some_iff.1 h).1
/-- The slice value v holds the bytes l, in a row of the call's own. -/
def Row (base : Nat) (w : World) (v : Value) (l : Bs) : Prop := w.ownsRow base 5 1 v l.length (bs l)
theorem Row.nil (base : Nat) (w : World) : Row base w (.slice none 0 0) [] := World.ownsRow_nil _ _ _ _
theorem ownsRow_kept {base e k n : Nat} {w w' : World} {v : Value} {xs : List Value} (h : w.ownsRow base e k v n xs) (hb : ∀ g, v.ownBlock = some g → w'.heap[g]? = w.heap[g]?) : w'.ownsRow base e k v n xs := by
  refine ⟨h.1, ?_⟩
  rcases h.2 with h' | ⟨g, cap, cur, rfl, h2, h3, h4⟩
  · exact .inl h'
  · exact .inr ⟨g, cap, cur, rfl, h2, (hb g rfl).trans h3, h4⟩
theorem ownsRow_tag {base e k n : Nat} {w : World} {v : Value} {xs : List Value} (h : w.ownsRow base e k v n xs) {g : Nat} (hg : v.ownBlock = some g) : ∃ cur, w.heap[g]? = some (.cells cur e (0, 0)) := by
  rcases h.2 with ⟨rfl, _⟩ | ⟨g', cap, cur, rfl, h2, h3, h4⟩
  · cases hg
  · cases hg; exact ⟨cur, h3⟩
theorem ownsRow_ge {base e k n : Nat} {w : World} {v : Value} {xs : List Value} (h : w.ownsRow base e k v n xs) {g : Nat} (hg : v.ownBlock = some g) : base ≤ g := by
  rcases h.2 with ⟨rfl, _⟩ | ⟨g', cap, cur, rfl, h2, h3, h4⟩
  · cases hg
  · cases hg; exact h2
theorem ownsRow_base {base base' e k n : Nat} {w : World} {v : Value} {xs : List Value} (h : w.ownsRow base e k v n xs) (hb : base' ≤ base) : w.ownsRow base' e k v n xs := by
  refine ⟨h.1, ?_⟩
  rcases h.2 with h' | ⟨g, cap, cur, rfl, h2, h3, h4⟩
  · exact .inl h'
  · exact .inr ⟨g, cap, cur, rfl, Nat.le_trans hb h2, h3, h4⟩
theorem Row.form {base : Nat} {w : World} {v : Value} {l : Bs} (h : Row base w v l) : ∃ a c, v = .slice a l.length c := by
  rcases h.2 with ⟨rfl, h'⟩ | ⟨g, cap, cur, h', _⟩
  · exact ⟨none, 0, by rw [h']⟩
  · exact ⟨_, _, h'⟩
/-- A shorter one at its beginning. -/
theorem Row.take {base : Nat} {w : World} {a : Option Addr} {n c : Nat} {l : Bs} (h : Row base w (.slice a n c) l) (m : Nat) (hm : m ≤ l.length) : Row base w (.slice a m c) (l.take m) := by
  have hl : (l.take m).length = m := by simp; omega
  refine ⟨by rw [bs_length, Nat.mul_one], ?_⟩
  rcases h.2 with ⟨h', h0⟩ | ⟨g, cap, cur, h', h2, h3, h4, h5, h6, h7⟩
  · cases h'
    have : m = 0 := by omega
    subst this
    exact .inl ⟨rfl, hl⟩
  · cases h'
    refine .inr ⟨g, c, cur, by rw [hl], h2, h3, by omega, h5, h6, ?_⟩
    rw [hl]
    have : cur.toList.take (m * 1) = (cur.toList.take (l.length * 1)).take m := by rw [List.take_take]; congr 1; omega
    rw [this, h7]
    simp [bs, List.map_take]
/-- append(b, s...): where the new row lies; what lies at the old one's beginning stays. -/
theorem run_append_str {P : Program} (w : World) (t u ty : TypeId) (i : TypeInfo) (ht : P.underlying t = some (.slice 5)) (hu : P.underlying u = some .string) (hi : P.info? 5 = some i) (hz : i.zero = some (.int .u8 0)) (hsize : i.size = 1) (hby : i.bytes = 1)
    (base : Nat) (v : Value) (l : Bs) (hown : Row base w v l) (s : ByteArray) (hlen : l.length + s.size ≤ 1099511627776) (hbase : base ≤ w.heap.size) :
    ∃ v' w', (Builtin.append_ #[t, u] ty #[v, .string s]).run P w = .ok v' w' ∧ (Row base w' v' (l ++ s.data.toList) ∧ w.grownBy w' v.ownBlock ∧ (v'.ownBlock = v.ownBlock ∨ v'.ownBlock = none ∨ v'.ownBlock = some w.heap.size) ∧
      (∀ u' l', Row base w u' l' → u'.ownBlock = v.ownBlock → l'.length ≤ l.length → Row base w' u' l')) := by
  obtain ⟨v', w', hr, h2, h3, h4⟩ := Lib.run_append_own_string (P := P) w base t u ty 5 i ht hu hi hz hsize hby v l.length (bs l) hown s (by unfold maxLen; omega) (by omega) hbase
  have hd : s.size = s.data.toList.length := by simp
  have hrow : Row base w' v' (l ++ s.data.toList) := by
    unfold Row
    rw [List.length_append, bs_append, ← hd]
    exact h2
  refine ⟨v', w', hr, hrow, h3, ?_⟩
  rcases hown.2 with ⟨rfl, h0⟩ | ⟨g, cap, cur, rfl, hbg, hg, hnc, hcm, hcs, htake⟩
  · have hrest : ∀ u' l', Row base w u' l' → u'.ownBlock = (Value.slice none 0 0).ownBlock → l'.length ≤ l.length → Row base w' u' l' := fun u' l' hu' e _ => ownsRow_kept hu' fun g hg => by rw [e] at hg; cases hg
    refine ⟨?_, hrest⟩
    by_cases hm : s.size = 0
    · rw [h4.2 ⟨rfl, hm⟩]
      exact .inl rfl
    · have hr' := run_append_nil_string (P := P) w t u ty 5 i (.int .u8 0) ht hu hi hz s (by omega) (by omega) (by rw [hby]; omega)
      rw [hr] at hr'
      cases hr'
      exact .inr (.inr rfl)
  · by_cases hroom : l.length + s.size ≤ cap
    · have hcs' : cur.size = cap := by simpa using hcs
      have hr' := Lib.run_append_room_string (P := P) w t u ty 5 i ht hu hi hsize g l.length cap cur hg s hroom (by omega)
      rw [hr] at hr'
      cases hr'
      refine ⟨.inl rfl, fun u' l' hu' e hl => ?_⟩
      refine ⟨hu'.1, ?_⟩
      rcases hu'.2 with hn | ⟨g', cap', cur', rfl, k2, k3, k4, k5, k6, k7⟩
      · exact .inl hn
      · simp only [Value.ownBlock] at e
        cases e
        rw [hg] at k3
        cases k3
        refine .inr ⟨g, cap', _, rfl, k2, setRow_heap w g cur _ 5 _ hg, k4, k5, ?_, ?_⟩
        · rw [← k6]
          simp only [List.size_toArray, List.length_append, List.length_take, List.length_drop, Array.length_toList, Lib.strCells_length]
          omega
        · rw [← k7]
          simp only [Nat.mul_one]
          rw [List.append_assoc, List.take_append_of_le_length (by simp; omega), List.take_take]
          congr 1
          omega
    · have holds : ∀ j u, (bs l)[j]? = some u → w.cell? ((⟨g, 0, none⟩ : Addr).add j) = some u := hown.cells (g := g) rfl
      have hr' := Lib.run_append_grow_string (P := P) w t u ty 5 i (.int .u8 0) ht hu hi hz ⟨g, 0, none⟩ l.length cap (bs l) (by rw [hsize, bs_length, Nat.mul_one]) holds s (by omega) (by omega) (by rw [hby]; exact growslice_fits (by omega) (by omega))
      rw [hr] at hr'
      cases hr'
      refine ⟨.inr (.inr rfl), fun u' l' hu' e hl => ownsRow_kept hu' fun g' hg' => ?_⟩
      obtain ⟨cur', hc'⟩ := ownsRow_tag hu' hg'
      exact heap_alloc_old w.drew _ (block_lt hc')
theorem append_str {P : Program} (w : World) {ops : Array Oper} {rest : List Oper} {o : Oper} {a : Act} {Q : Exit → Act → World → Prop}
    (hgd : o.guard = none) (sl x : Operand) (t u : TypeId) (ho : o.op = .call { callee := .builtin .append, args := #[sl, x], argTypes := #[t, u] })
    (i : TypeInfo) (ht : P.underlying t = some (.slice 5)) (hu : P.underlying u = some .string) (hi : P.info? 5 = some i) (hz : i.zero = some (.int .u8 0)) (hsize : i.size = 1) (hby : i.bytes = 1)
    (base : Nat) (v : Value) (l : Bs) (hs : a.eval sl = v) (hown : Row base w v l) (s : ByteArray) (hx : a.eval x = .string s)
    (hlen : l.length + s.size ≤ 1099511627776) (hbase : base ≤ w.heap.size)
    (h : ∀ v' w', Row base w' v' (l ++ s.data.toList) → w.grownBy w' v.ownBlock → (v'.ownBlock = v.ownBlock ∨ v'.ownBlock = none ∨ v'.ownBlock = some w.heap.size) →
      (∀ u' l', Row base w u' l' → u'.ownBlock = v.ownBlock → l'.length ≤ l.length → Row base w' u' l') → wpList P ops Q rest (a.put o.dst v') w') : wpList P ops Q (o :: rest) a w := by
  refine wpList_plain hgd fun K hK => ?_
  obtain ⟨v', w', hr, h2, h3, h4, h5⟩ := run_append_str (P := P) w t u o.type i ht hu hi hz hsize hby base v l hown s hlen hbase
  unfold Oper.wp execOp
  simp only [ho, resolve, invoke, builtin, Sem.run_bind, Sem.run_pure, Result.andThen_ok, List.map_toArray, List.map_cons, List.map_nil, hs, hx, hr]
  exact hK _ _ (h v' w' h2 h3 h4 h5)
/-- .. as a step of a region that draws. -/
theorem step_append_str {P : Program} (w : World) {ops : Array Oper} {o : Oper} {a : Act} {K : Act → World → Prop} {Q : Exit → Act → World → Prop} {E : Prop}
    (hgd : o.guard = none) (sl x : Operand) (t u : TypeId) (ho : o.op = .call { callee := .builtin .append, args := #[sl, x], argTypes := #[t, u] })
    (i : TypeInfo) (ht : P.underlying t = some (.slice 5)) (hu : P.underlying u = some .string) (hi : P.info? 5 = some i) (hz : i.zero = some (.int .u8 0)) (hsize : i.size = 1) (hby : i.bytes = 1)
    (base : Nat) (v : Value) (l : Bs) (hs : a.eval sl = v) (hown : Row base w v l) (s : ByteArray) (hx : a.eval x = .string s)
    (hlen : l.length + s.size ≤ 1099511627776) (hbase : base ≤ w.heap.size)
    (h : ∀ v' w', Row base w' v' (l ++ s.data.toList) → w.grownBy w' v.ownBlock → (v'.ownBlock = v.ownBlock ∨ v'.ownBlock = none ∨ v'.ownBlock = some w.heap.size) →
      (∀ u' l', Row base w u' l' → u'.ownBlock = v.ownBlock → l'.length ≤ l.length → Row base w' u' l') → K (a.put o.dst v') w') :
    if Region.wanted o (yielded ops a.tmps) = true then Oper.wp P o a w K Q else E := by
  have hw : Region.wanted o (yielded ops a.tmps) = true := by simp [Region.wanted, hgd]
  rw [if_pos hw]
  obtain ⟨v', w', hr, h2, h3, h4, h5⟩ := run_append_str (P := P) w t u o.type i ht hu hi hz hsize hby base v l hown s hlen hbase
  unfold Oper.wp execOp
  simp only [ho, resolve, invoke, builtin, Sem.run_bind, Sem.run_pure, Result.andThen_ok, List.map_toArray, List.map_cons, List.map_nil, hs, hx, hr]
  exact h v' w' h2 h3 h4 h5
end Go.Dk
/- A file as it lies in memory: its pieces and what was put into it; what stays, what a settling and a put leave; of no program but for the numbers of its types. -/
namespace Go.Dk
open Go.RowKit
/-- A piece: its slice, the bytes, where its own begin. -/
structure Pc where
  v : Value
  all : Bs
  frm : Nat
def Pc.cells (c : Pc) : List Value := [c.v, .int .i64 c.frm]
/-- The pieces tell what was put. -/
def Story : Bs → List Pt → List Pc → Prop
  | _, [], [] => True
  | s, p :: ps, c :: cs => c.all = app s p ∧ c.frm = (if p.whole = true then 0 else s.length) ∧ Story (app s p) ps cs
  | _, _, _ => False
theorem Story.length : ∀ {s : Bs} {ps : List Pt} {cs : List Pc}, Story s ps cs → cs.length = ps.length
  | _, [], [], _ => rfl
  | _, _ :: _, _ :: _, h => by simp [Story.length h.2.2]
  | _, [], _ :: _, h => h.elim
  | _, _ :: _, [], h => h.elim
theorem Story.snoc : ∀ {s : Bs} {ps : List Pt} {cs : List Pc}, Story s ps cs → ∀ (p : Pt) (v : Value), Story s (ps ++ [p]) (cs ++ [⟨v, app (ps.foldl app s) p, if p.whole = true then 0 else (ps.foldl app s).length⟩])
  | _, [], [], _, _, _ => ⟨rfl, rfl, trivial⟩
  | _, _ :: _, _ :: _, h, p, v => ⟨h.1, h.2.1, h.2.2.snoc p v⟩
  | _, [], _ :: _, h, _, _ => h.elim
  | _, _ :: _, [], h, _, _ => h.elim
theorem Story.get : ∀ {s : Bs} {ps : List Pt} {cs : List Pc}, Story s ps cs → ∀ {i : Nat} {c : Pc}, cs[i]? = some c → ∃ p, ps[i]? = some p ∧ c.all = app ((ps.take i).foldl app s) p ∧ c.frm = if p.whole = true then 0 else ((ps.take i).foldl app s).length
  | _, [], [], _, _, _, hc => by simp at hc
  | _, p :: ps, c :: cs, h, 0, c', hc => by
    simp only [List.getElem?_cons_zero, Option.some.injEq] at hc
    subst hc
    exact ⟨p, rfl, h.1, h.2.1⟩
  | _, p :: ps, c :: cs, h, i + 1, c', hc => by
    simp only [List.getElem?_cons_succ] at hc
    simpa using h.2.2.get hc
  | _, [], _ :: _, h, _, _, _ => h.elim
  | _, _ :: _, [], h, _, _, _ => h.elim
theorem Story.last {s : Bs} {ps : List Pt} {cs : List Pc} (h : Story s ps cs) {c : Pc} (hc : cs.getLast? = some c) : c.all = ps.foldl app s := by
  rw [List.getLast?_eq_getElem?] at hc
  obtain ⟨p, hp, ha, _⟩ := h.get hc
  have hl := h.length
  have hi : cs.length - 1 < ps.length := (List.getElem?_eq_some_iff.1 hp).1
  have : ps = ps.take (cs.length - 1) ++ [p] := by
    have e := List.take_append_drop (cs.length - 1) ps
    have e2 : ps.drop (cs.length - 1) = [p] := by
      rw [List.drop_eq_getElem_cons hi, List.drop_eq_nil_of_le (by omega)]
      rw [List.getElem?_eq_getElem hi] at hp
      rw [Option.some.inj hp]
    rw [e2] at e
    exact e.symm
  rw [ha]
  conv => rhs; rw [this]
  simp
/-- A file in memory. -/
structure WF where
  a : AF
  blk : Nat
  sv : Value
  lv : Value
  cs : List Pc
def WF.alls (F : WF) : List (Value × Bs) := (F.sv, F.a.sure) :: F.cs.map fun c => (c.v, c.all)
def WF.nowV (F : WF) : Value := match F.cs.getLast? with | some c => c.v | none => F.sv
def WF.foot (F : WF) (b : Nat) : Prop := b = F.blk ∨ F.lv.ownBlock = some b ∨ ∃ q ∈ F.alls, q.1.ownBlock = some b
structure FileAt (base : Nat) (w : World) (F : WF) : Prop where
  row : w.heap[F.blk]? = some (.cells #[.bool F.a.settled, F.sv, F.lv] 118 (0, 0))
  ge : base ≤ F.blk
  all : ∀ q ∈ F.alls, Row base w q.1 q.2
  loose : w.ownsRow base 120 2 F.lv F.cs.length (F.cs.flatMap Pc.cells)
  story : Story F.a.sure F.a.puts F.cs
  safe : ∀ q ∈ F.alls, q.1.ownBlock = F.nowV.ownBlock → q.2.length ≤ F.a.bytes.length
theorem WF.now_mem {F : WF} (h : Story F.a.sure F.a.puts F.cs) : (F.nowV, F.a.bytes) ∈ F.alls := by
  unfold WF.nowV WF.alls
  cases hc : F.cs.getLast? with
  | none =>
    have : F.cs = [] := by simpa using hc
    have hl := h.length
    rw [this] at hl
    have : F.a.puts = [] := List.eq_nil_of_length_eq_zero hl.symm
    simp [AF.bytes, this]
  | some c =>
    refine List.mem_cons_of_mem _ (List.mem_map.2 ⟨c, List.mem_of_getLast? hc, ?_⟩)
    rw [h.last hc]
    rfl
theorem FileAt.now {base : Nat} {w : World} {F : WF} (h : FileAt base w F) : Row base w F.nowV F.a.bytes := h.all _ (WF.now_mem h.story)
theorem FileAt.foot_lt {base : Nat} {w : World} {F : WF} (h : FileAt base w F) {b : Nat} (hb : F.foot b) : b < w.heap.size := by
  rcases hb with rfl | hb | ⟨q, hq, hb⟩
  · exact block_lt h.row
  · obtain ⟨cur, hc⟩ := ownsRow_tag h.loose hb
    exact block_lt hc
  · obtain ⟨cur, hc⟩ := ownsRow_tag (h.all q hq) hb
    exact block_lt hc
theorem FileAt.foot_ge {base : Nat} {w : World} {F : WF} (h : FileAt base w F) {b : Nat} (hb : F.foot b) : base ≤ b := by
  rcases hb with rfl | hb | ⟨q, hq, hb⟩
  · exact h.ge
  · exact ownsRow_ge h.loose hb
  · exact ownsRow_ge (h.all q hq) hb
/-- What kinds of blocks a file has. -/
theorem FileAt.foot_kind {base : Nat} {w : World} {F : WF} (h : FileAt base w F) {b : Nat} (hb : F.foot b) : ∃ cs t, w.heap[b]? = some (.cells cs t (0, 0)) ∧ (t = 118 ∨ t = 120 ∨ t = 5) := by
  rcases hb with rfl | hb | ⟨q, hq, hb⟩
  · exact ⟨_, _, h.row, .inl rfl⟩
  · obtain ⟨cur, hc⟩ := ownsRow_tag h.loose hb
    exact ⟨_, _, hc, .inr (.inl rfl)⟩
  · obtain ⟨cur, hc⟩ := ownsRow_tag (h.all q hq) hb
    exact ⟨_, _, hc, .inr (.inr rfl)⟩
theorem FileAt.kept {base : Nat} {w w' : World} {F : WF} (h : FileAt base w F) (hb : ∀ b, F.foot b → w'.heap[b]? = w.heap[b]?) : FileAt base w' F :=
  ⟨(hb _ (.inl rfl)).trans h.row, h.ge, fun q hq => ownsRow_kept (h.all q hq) fun g hg => hb g (.inr (.inr ⟨q, hq, hg⟩)), ownsRow_kept h.loose fun g hg => hb g (.inr (.inl hg)), h.story, h.safe⟩
theorem FileAt.touch {base : Nat} {X : Nat → Prop} {w w' : World} {F : WF} (h : FileAt base w F) (t : Tch X w w') (hX : ∀ b, F.foot b → ¬ X b) : FileAt base w' F :=
  h.kept fun b hb => t.block b (h.foot_lt hb) (hX b hb)
/-- A file that was settled at bytes of its own. -/
theorem FileAt.settled {base : Nat} {w w' : World} {F : WF} (h : FileAt base w F) (v : Value) (l : Bs) (hv : Row base w v l) (hown : ∀ g, v.ownBlock = some g → F.foot g)
    (hrow : w'.heap[F.blk]? = some (.cells #[.bool true, v, .slice none 0 0] 118 (0, 0))) (t : Tch (· = F.blk) w w') :
    FileAt base w' ⟨F.a.settle l, F.blk, v, .slice none 0 0, []⟩ ∧ ∀ b, (WF.mk (F.a.settle l) F.blk v (.slice none 0 0) []).foot b → F.foot b := by
  refine ⟨⟨hrow, h.ge, ?_, World.ownsRow_nil _ _ _ _, trivial, ?_⟩, ?_⟩
  · intro q hq
    simp only [WF.alls, List.map_nil, List.mem_singleton] at hq
    subst hq
    refine ownsRow_kept hv fun g hg => ?_
    obtain ⟨cur, hc⟩ := ownsRow_tag hv hg
    refine t.block g (block_lt hc) fun e => ?_
    subst e
    rw [h.row] at hc
    cases hc
  · intro q hq _
    simp only [WF.alls, List.map_nil, List.mem_singleton] at hq
    subst hq
    exact Nat.le_refl _
  · rintro b (rfl | hb | ⟨q, hq, hb⟩)
    · exact .inl rfl
    · cases hb
    · simp only [WF.alls, List.map_nil, List.mem_singleton] at hq
      subst hq
      exact hown b hb
/-- A file that is not there yet. -/
theorem FileAt.fresh {base : Nat} {w : World} {b : Nat} (name : Bs) (hb : base ≤ b) (h : w.heap[b]? = some (.cells #[.bool false, .slice none 0 0, .slice none 0 0] 118 (0, 0))) :
    FileAt base w ⟨⟨name, [], false, []⟩, b, .slice none 0 0, .slice none 0 0, []⟩ := by
  refine ⟨h, hb, ?_, World.ownsRow_nil _ _ _ _, trivial, ?_⟩
  · intro q hq
    simp only [WF.alls, List.map_nil, List.mem_singleton] at hq
    subst hq
    exact Row.nil _ _
  · intro q hq _
    simp only [WF.alls, List.map_nil, List.mem_singleton] at hq
    subst hq
    exact Nat.le_refl _
/-- A file behind a put: 'v', the bytes' new slice, lies where the last one lay, or is new. -/
theorem FileAt.put {base : Nat} {w w1 w2 w' : World} {F : WF} (h : FileAt base w F) (p : Pt) (stay : Value) (hstay : (p.whole = true ∧ stay = .slice none 0 0) ∨ (p.whole = false ∧ stay = F.nowV))
    (v lv : Value) (hv : Row base w1 v (app F.a.bytes p)) (g1 : w.grownBy w1 stay.ownBlock) (l1 : v.ownBlock = stay.ownBlock ∨ v.ownBlock = none ∨ ∃ g, v.ownBlock = some g ∧ w.heap.size ≤ g)
    (k1 : ∀ u l, Row base w u l → u.ownBlock = stay.ownBlock → l.length ≤ (if p.whole = true then 0 else F.a.bytes.length) → Row base w1 u l)
    (t12 : Tch (fun _ => False) w1 w2) (t2 : Tch (fun b => F.lv.ownBlock = some b ∨ b = F.blk) w2 w')
    (hl : w'.ownsRow base 120 2 lv (F.cs.length + 1) (F.cs.flatMap Pc.cells ++ [v, .int .i64 ((if p.whole = true then 0 else F.a.bytes.length : Nat) : Int)]))
    (l2 : lv.ownBlock = F.lv.ownBlock ∨ ∃ g, lv.ownBlock = some g ∧ w.heap.size ≤ g)
    (hrow : w'.heap[F.blk]? = some (.cells #[.bool F.a.settled, F.sv, lv] 118 (0, 0))) :
    ∃ F' : WF, F'.a = F.a.put p ∧ F'.blk = F.blk ∧ FileAt base w' F' ∧ Tch F.foot w w' ∧ ∀ b, F'.foot b → F.foot b ∨ w.heap.size ≤ b := by
  have hstayfoot : ∀ b, stay.ownBlock = some b → F.foot b := by
    intro b hb
    rcases hstay with ⟨_, rfl⟩ | ⟨_, rfl⟩
    · cases hb
    · exact .inr (.inr ⟨_, WF.now_mem h.story, hb⟩)
  have hbyte : ∀ u l, Row base w u l → ∀ g, u.ownBlock = some g → ¬ (F.lv.ownBlock = some g ∨ g = F.blk) := by
    intro u l hu g hg hx
    obtain ⟨cur, hc⟩ := ownsRow_tag hu hg
    rcases hx with hx | rfl
    · obtain ⟨cur', hc'⟩ := ownsRow_tag h.loose hx
      rw [hc] at hc'
      cases hc'
    · have := h.row
      rw [hc] at this
      cases this
  have t1 : Tch (fun b => stay.ownBlock = some b) w w1 := .of_grown g1 fun _ e => e
  have keep : ∀ u l, Row base w u l → (u.ownBlock = stay.ownBlock → l.length ≤ (if p.whole = true then 0 else F.a.bytes.length)) → Row base w' u l := by
    intro u l hu hlen
    have h1 : Row base w1 u l := by
      by_cases e : u.ownBlock = stay.ownBlock
      · exact k1 u l hu e (hlen e)
      · refine ownsRow_kept hu fun g hg => ?_
        obtain ⟨cur, hc⟩ := ownsRow_tag hu hg
        exact t1.block g (block_lt hc) fun e' => e (hg.trans e'.symm)
    refine ownsRow_kept h1 fun g hg => ?_
    obtain ⟨cur, hc⟩ := ownsRow_tag h1 hg
    have e2 := t12.block g (block_lt hc) fun x => x
    exact (t2.block g (Nat.lt_of_lt_of_le (block_lt hc) t12.size) (hbyte u l hu g hg)).trans e2
  have hv' : Row base w' v (app F.a.bytes p) := by
    refine ownsRow_kept hv fun g hg => ?_
    obtain ⟨cur, hc⟩ := ownsRow_tag hv hg
    have e2 := t12.block g (block_lt hc) fun x => x
    refine (t2.block g (Nat.lt_of_lt_of_le (block_lt hc) t12.size) fun hx => ?_).trans e2
    have hgf : F.foot g := hx.elim (fun e => .inr (.inl e)) .inl
    have hgw := h.foot_lt hgf
    rcases l1 with e | e | ⟨g', e, hg'⟩
    · rw [hg] at e
      rcases hstay with ⟨_, rfl⟩ | ⟨_, rfl⟩
      · cases e
      · exact hbyte _ _ h.now g e.symm hx
    · rw [hg] at e; cases e
    · rw [hg] at e; cases e; omega
  refine ⟨⟨F.a.put p, F.blk, F.sv, lv, F.cs ++ [⟨v, app F.a.bytes p, if p.whole = true then 0 else F.a.bytes.length⟩]⟩, rfl, rfl, ⟨hrow, h.ge, ?_, ?_, (by exact h.story.snoc p v), ?_⟩, ?_, ?_⟩
  · intro q hq
    simp only [WF.alls, List.map_append, List.map_cons, List.map_nil, List.mem_cons, List.mem_append, List.not_mem_nil, or_false] at hq
    have hold : q ∈ F.alls → Row base w' q.1 q.2 := fun hq => keep _ _ (h.all q hq) fun e => by
      rcases hstay with ⟨h1, rfl⟩ | ⟨h1, rfl⟩
      · have hr := h.all q hq
        rcases hr.2 with ⟨_, hn⟩ | ⟨g, cap, cur, hg, _⟩
        · rw [if_pos h1, hn]; exact Nat.le_refl _
        · rw [hg] at e; cases e
      · rw [if_neg (by simp [h1])]
        exact h.safe q hq e
    rcases hq with rfl | hq | rfl
    · exact hold (List.mem_cons_self ..)
    · exact hold (List.mem_cons_of_mem _ hq)
    · exact hv'
  · rw [List.flatMap_append, List.length_append]
    exact hl
  · intro q hq e
    have hnv : (WF.mk (F.a.put p) F.blk F.sv lv (F.cs ++ [⟨v, app F.a.bytes p, if p.whole = true then 0 else F.a.bytes.length⟩])).nowV = v := by simp [WF.nowV]
    rw [hnv] at e
    show q.2.length ≤ (F.a.put p).bytes.length
    rw [AF.bytes_put]
    simp only [WF.alls, List.map_append, List.map_cons, List.map_nil, List.mem_cons, List.mem_append, List.not_mem_nil, or_false] at hq
    have hold : q ∈ F.alls → q.2.length ≤ (app F.a.bytes p).length := fun hq => by
      have hr := h.all q hq
      rcases hr.2 with ⟨_, hn⟩ | ⟨g, cap, cur, hg, _, hc, _⟩
      · omega
      · have hqg : q.1.ownBlock = some g := by rw [hg]; rfl
        rw [hqg] at e
        rcases l1 with e1 | e1 | ⟨g', e1, hg'⟩
        · rw [← e] at e1
          rcases hstay with ⟨_, rfl⟩ | ⟨h1, rfl⟩
          · cases e1
          · have := h.safe q hq (hqg.trans e1)
            unfold app
            rw [if_neg (by simp [h1]), List.length_append]
            omega
        · rw [← e] at e1; cases e1
        · rw [← e] at e1
          cases e1
          have := block_lt hc
          omega
    rcases hq with rfl | hq | rfl
    · exact hold (List.mem_cons_self ..)
    · exact hold (List.mem_cons_of_mem _ hq)
    · exact Nat.le_refl _
  · refine (t1.trans (t12.trans t2 (Z := fun b => F.lv.ownBlock = some b ∨ b = F.blk) (fun _ x => x.elim) (fun _ _ x => x)) hstayfoot fun b _ hb => ?_)
    exact hb.elim (fun e => .inr (.inl e)) .inl
  · rintro b (rfl | hb | ⟨q, hq, hb⟩)
    · exact .inl (.inl rfl)
    · rcases l2 with e | ⟨g, e, hg⟩
      · exact .inl (.inr (.inl (e.symm.trans hb)))
      · have hb' : lv.ownBlock = some b := hb
        rw [hb'] at e; cases e; exact .inr hg
    · simp only [WF.alls, List.map_append, List.map_cons, List.map_nil, List.mem_cons, List.mem_append, List.not_mem_nil, or_false] at hq
      rcases hq with rfl | hq | rfl
      · exact .inl (.inr (.inr ⟨_, List.mem_cons_self .., hb⟩))
      · exact .inl (.inr (.inr ⟨_, List.mem_cons_of_mem _ hq, hb⟩))
      · rcases l1 with e | e | ⟨g, e, hg⟩
        · exact .inl (hstayfoot b (e.symm.trans hb))
        · have hb' : v.ownBlock = some b := hb
          rw [hb'] at e; cases e
        · have hb' : v.ownBlock = some b := hb
          rw [hb'] at e; cases e; exact .inr hg
end Go.Dk
