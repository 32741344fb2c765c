/- Several texts in one: ShaMath, Bytes. -/
import Derived.Laws.Entries
import Derived.Laws.Bits64
import Derived.WalkKit
import Derived.ArgAppend
import Derived.Laws.IdiomStrings
import Derived.Laws.IdiomCopy
import Derived.Deep.MidRow
import Derived.Deep.Draws
/- Plain arithmetic on 64-bit words for the digests: rotation, the steps of SHA-512, its message schedule; no program text is named here. -/
namespace Go.Sha
/-- x turned to the right by k bits, as the walk writes it. -/
def rotr (x k : Int) : Int := bits .or .u64 (x / 2 ^ k.toNat) (IntKind.u64.wrap (x * 2 ^ (64 - k).toNat))
def turn3 (x i j k : Int) : Int := bits .xor .u64 (bits .xor .u64 (rotr x i) (rotr x j)) (rotr x k)
def shift3 (x i j k : Int) : Int := bits .xor .u64 (bits .xor .u64 (rotr x i) (rotr x j)) (x / 2 ^ k.toNat)
def add (x y : Int) : Int := IntKind.u64.wrap (x + y)

/-- The number that bytes are, the highest first. -/
def beN : List UInt8 → Int → Int
 | [], n => n
 | c :: r, n => beN r (IntKind.u64.wrap (n * 256 + c.toNat))
/-- The next word of the schedule behind those of 'l'. -/
def nxt (s : List UInt8) (l : List Int) : Int :=
 if l.length < 16 then beN ((s.drop (8 * l.length)).take 8) 0
 else add (add (add (l.getD (l.length - 16) 0) (shift3 (l.getD (l.length - 15) 0) 1 8 7)) (l.getD (l.length - 7) 0)) (shift3 (l.getD (l.length - 2) 0) 19 61 6)
def sch (s : List UInt8) : Nat → List Int
 | 0 => []
 | n + 1 => sch s n ++ [nxt s (sch s n)]
def wd (s : List UInt8) (i : Nat) : Int := (sch s (i + 1)).getD i 0
/-- Eighty words as cells. -/
def cells80 (f : Nat → Int) : Array Value := ((List.range 80).map fun i => Value.int .u64 (f i)).toArray
structure St where
 a : Int
 b : Int
 c : Int
 d : Int
 e : Int
 f : Int
 g : Int
 h : Int
def St.cells (s : St) : Array Value := #[.int .u64 s.a, .int .u64 s.b, .int .u64 s.c, .int .u64 s.d, .int .u64 s.e, .int .u64 s.f, .int .u64 s.g, .int .u64 s.h]
def inv (x : Int) : Int := bits .xor .u64 (if IntKind.u64.signed = true then -1 else IntKind.u64.max) x
def t1 (s : St) (k w : Int) : Int := add (add (add (add s.h (turn3 s.e 14 18 41)) (bits .xor .u64 (bits .and .u64 s.e s.f) (bits .and .u64 (inv s.e) s.g))) k) w
def t2 (s : St) : Int := add (turn3 s.a 28 34 39) (bits .xor .u64 (bits .xor .u64 (bits .and .u64 s.a s.b) (bits .and .u64 s.a s.c)) (bits .and .u64 s.b s.c))
def step (s : St) (k w : Int) : St := ⟨add (t1 s k w) (t2 s), s.a, s.b, s.c, add s.d (t1 s k w), s.e, s.f, s.g⟩
def steps (k w : Nat → Int) (s : St) : Nat → St
 | 0 => s
 | n + 1 => step (steps k w s n) (k n) (w n)
def St.plus (s t : St) : St := ⟨add s.a t.a, add s.b t.b, add s.c t.c, add s.d t.d, add s.e t.e, add s.f t.f, add s.g t.g, add s.h t.h⟩
def few (s : ByteArray) : ByteArray := if 700 < s.size then s.extract 0 700 else s
theorem wrap_i64 (n : Int) (h0 : -9223372036854775808 ≤ n) (h1 : n < 9223372036854775808) : IntKind.i64.wrap n = n := by
 simp only [IntKind.wrap, IntKind.bits, IntKind.signed]
 simp only [show (2 : Int) ^ 64 = 18446744073709551616 from by decide, show (2 : Int) ^ (64 - 1) = 9223372036854775808 from by decide]
 split
 ·rename_i h; simp at h; omega
 ·rename_i h; simp at h; omega
/-- The numbers of the steps. -/
def kl : List Int := [4794697086780616226, 8158064640168781261, 13096744586834688815, 16840607885511220156, 4131703408338449720, 6480981068601479193, 10538285296894168987, 12329834152419229976, 15566598209576043074, 1334009975649890238, 2608012711638119052, 6128411473006802146, 8268148722764581231, 9286055187155687089, 11230858885718282805, 13951009754708518548, 16472876342353939154, 17275323862435702243, 1135362057144423861, 2597628984639134821, 3308224258029322869, 5365058923640841347, 6679025012923562964, 8573033837759648693, 10970295158949994411, 12119686244451234320, 12683024718118986047, 13788192230050041572, 14330467153632333762, 15395433587784984357, 489312712824947311, 1452737877330783856, 2861767655752347644, 3322285676063803686, 5560940570517711597, 5996557281743188959, 7280758554555802590, 8532644243296465576, 9350256976987008742, 10552545826968843579, 11727347734174303076, 12113106623233404929, 14000437183269869457, 14369950271660146224, 15101387698204529176, 15463397548674623760, 17586052441742319658, 1182934255886127544, 1847814050463011016, 2177327727835720531, 2830643537854262169, 3796741975233480872, 4115178125766777443, 5681478168544905931, 6601373596472566643, 7507060721942968483, 8399075790359081724, 8693463985226723168, 9568029438360202098, 10144078919501101548, 10430055236837252648, 11840083180663258601, 13761210420658862357, 14299343276471374635, 14566680578165727644, 15097957966210449927, 16922976911328602910, 17689382322260857208, 500013540394364858, 748580250866718886, 1242879168328830382, 1977374033974150939, 2944078676154940804, 3659926193048069267, 4368137639120453308, 4836135668995329356, 5532061633213252278, 6448918945643986474, 6902733635092675308, 7801388544844847127]
def kk (i : Nat) : Int := kl.getD i 0
/-- The numbers ahead of all bytes. -/
def start : St := ⟨7640891576956012808, 13503953896175478587, 4354685564936845355, 11912009170470909681, 5840696475078001361, 11170449401992604703, 2270897969802886507, 6620516959819538809⟩
/-- The numbers behind a block. -/
def mix (h : St) (s : List UInt8) : St := h.plus (steps kk (wd s) h 80)
/-- The word number j when k bytes have been taken. -/
def pw (s : List UInt8) (k j : Nat) : Int := beN ((s.drop (8 * j)).take (min 8 (k - 8 * j))) 0
/-- A byte as a cell. -/
def byteV (c : UInt8) : Value := .int .u8 (c.toNat : Int)
def byteOf (y : Int) : UInt8 := UInt8.ofNat (y % 256).toNat
/-- The lowest m bytes of a number, the highest first. -/
def be (x : Int) : Nat → List UInt8
 | 0 => []
 | m + 1 => byteOf (x / 2 ^ (8 * m)) :: be x m
/-- So many blocks mixed in, one behind the other. -/
def mixN (h : St) (l : List UInt8) : Nat → St
 | 0 => h
 | n + 1 => mixN (mix h (l.take 128)) (l.drop 128) n
def mixAll (h : St) (l : List UInt8) : St := mixN h l (l.length / 128)
end Go.Sha
/- A slice of bytes that a call has made, wherever it lies: what it holds, that it may be written up to its capacity; what append does to it; of no program. -/
namespace Go.ByteRow
open Go.RowKit Go.Sha
/-- The slice value v holds the bytes l; it is nil, or lies at the head of a block from 'base' on, all of whose cells up to the capacity are there and may be written. -/
def Has (base : Nat) (w : World) (v : Value) (l : List UInt8) : Prop :=
 (v = .slice none 0 0 ∧ l = []) ∨
 ∃ g cap, v = .slice (some ⟨g, 0, none⟩) l.length cap ∧ base ≤ g ∧ g < w.heap.size ∧ l.length ≤ cap ∧
  (∀ j c, l[j]? = some c → w.cell? ⟨g, j, none⟩ = some (byteV c)) ∧
  (∀ j, j < cap → (w.cell? ⟨g, j, none⟩).isSome = true ∧ w.frozen? ⟨g, j, none⟩ = false)
theorem Has.below {base B : Nat} {w w' : World} {v : Value} {l : List UInt8} (h : Has base w v l) (hb : Below B w w') (hB : w.heap.size ≤ B) : Has base w' v l := by
 rcases h with h | ⟨g, cap, h1, h2, h3, h4, h5, h6⟩
 ·exact .inl h
 ·refine .inr ⟨g, cap, h1, h2, Nat.lt_of_lt_of_le h3 hb.size, h4, fun j c hj => ?_, fun j hj => ?_⟩
  ·rw [hb.cell (p := ⟨g, j, none⟩) (by show g < B; omega)]; exact h5 j c hj
  ·rw [hb.cell (p := ⟨g, j, none⟩) (by show g < B; omega), hb.frozen (p := ⟨g, j, none⟩) (by show g < B; omega)]; exact h6 j hj
theorem Has.alloc {base : Nat} {w : World} {v : Value} {l : List UInt8} (h : Has base w v l) (o : Obj) : Has base (w.alloc o) v l :=
 h.below ((Below.refl _ _).alloc (Nat.le_refl _) o) (Nat.le_refl _)
theorem Has.mono {base base' : Nat} {w : World} {v : Value} {l : List UInt8} (h : Has base w v l) (hb : base' ≤ base) : Has base' w v l := by
 rcases h with h | ⟨g, cap, h1, h2, h3⟩
 ·exact .inl h
 ·exact .inr ⟨g, cap, h1, Nat.le_trans hb h2, h3⟩
theorem Has.of_own {base e : Nat} {w : World} {v : Value} {n : Nat} {l : List UInt8} (h : w.ownsRow base e 1 v n (l.map byteV)) : Has base w v l := by
 obtain ⟨h0, h1⟩ := h
 have hn : n = l.length := by simpa using h0.symm
 subst hn
 rcases h1 with ⟨h1, h2⟩ | ⟨g, cap, cur, h1, h2, h3, h4, _, h6, h7⟩
 ·exact .inl ⟨h1, List.length_eq_zero_iff.1 h2⟩
 ·have hlt : g < w.heap.size := by
   rcases Nat.lt_or_ge g w.heap.size with h | h
   ·exact h
   ·rw [Array.getElem?_eq_none h] at h3; cases h3
  refine .inr ⟨g, cap, h1, h2, hlt, h4, fun j c hj => ?_, fun j hj => ?_⟩
  ·have hjl : j < l.length := (List.getElem?_eq_some_iff.1 hj).1
   rw [cell_of_row _ _ _ _ _ _ h3, ← Array.getElem?_toList]
   have : (cur.toList.take (l.length * 1))[j]? = some (byteV c) := by rw [h7, List.getElem?_map, hj]; rfl
   rwa [List.getElem?_take_of_lt (by omega)] at this
  ·exact ⟨by rw [cell_of_row _ _ _ _ _ _ h3, Array.getElem?_eq_getElem (by omega)]; rfl, frozen_of_row _ _ _ _ _ h3⟩
theorem Has.form {base : Nat} {w : World} {v : Value} {l : List UInt8} (h : Has base w v l) (hl : l ≠ []) : ∃ g cap, v = .slice (some ⟨g, 0, none⟩) l.length cap ∧ l.length ≤ cap := by
 rcases h with ⟨_, h⟩ | ⟨g, cap, h1, _, _, h4, _⟩
 ·exact absurd h hl
 ·exact ⟨g, cap, h1, h4⟩
theorem below_setCells {B b : Nat} (hb : B ≤ b) : ∀ (vs : List Value) (o : Nat) (w w1 : World), Below B w w1 → Below B w (w1.setCells b o vs)
 | [], _, _, _, h => h
 | _ :: vs, o, w, _, h => below_setCells hb vs (o + 1) w _ (h.setCell hb _)
/-- append(b, x...) onto such a slice. -/
theorem append {P : Program} (w : World) {ops : Array Oper} {rest : List Oper} {o : Oper} {a : Act} {Q : Exit → Act → World → Prop}
  (hg : o.guard = none) (s x : Operand) (t : TypeId) (hop : o.op = Op.call { callee := Callee.builtin Builtin.append, args := #[s, x], argTypes := #[t, t] })
  (e : TypeId) (i : TypeInfo) (h1 : P.underlying t = some (.slice e)) (h2 : P.info? e = some i) (h3 : i.zero = some (.int .u8 0)) (h4 : i.size = 1) (h5 : i.bytes = 1)
  (base : Nat) (v : Value) (l : List UInt8) (hs : a.eval s = v) (hh : Has base w v l) (hb : base ≤ w.heap.size)
  (ad : Addr) (m c : Nat) (news : List UInt8) (hx : a.eval x = .slice (some ad) m c) (hm : news.length = m) (hc : ∀ j u, (news.map byteV)[j]? = some u → w.cell? (ad.add j) = some u)
  (hlen : l.length + news.length ≤ 1099511627776)
  (k : ∀ v' w', Has base w' v' (l ++ news) → Below base w w' → wpList P ops Q rest (a.put o.dst v') w') :
  wpList P ops Q (o :: rest) a w := by
 subst hm
 have hone : ∀ u ∈ news.map byteV, u.oneCell' = true := by
  intro u hu
  obtain ⟨q, _, rfl⟩ := List.mem_map.1 hu
  rfl
 rcases hh with ⟨hv, rfl⟩ | ⟨g, cap, hv, hgb, hgl, hcap, hcell, hroom⟩
 ·refine wpList_append_own w hg s x t hop base e i (.int .u8 0) 1 1 h1 h2 h3 h4 h5 rfl (by decide) v 0 [] hs (by rw [hv]; exact World.ownsRow_nil _ _ _ _) ad news.length c (news.map byteV) hx (by simp) hc hone (by unfold maxLen; omega) (by omega) hb ?_
  intro v' w' hown hgrow _
  refine k v' w' (Has.of_own (by simpa using hown)) ((Below.refl _ _).grown hgrow hb (fun q hq => by rw [hv] at hq; cases hq))
 ·refine wpList_append_arg w hg s x t hop e i (.int .u8 0) 1 1 h1 h2 h3 h4 h5 rfl (by decide) g 0 l.length cap (l.map byteV) (by rw [hs, hv]) (by simp) (fun j u hj => ?_) ad news.length c (news.map byteV) hx (by simp) hc hone (fun hr j hj => ?_) (by unfold maxLen; omega) (by omega) (fun hr => ?_) (fun hr v' w' hown hgrow => ?_)
  ·rw [List.getElem?_map] at hj
   cases hq : l[j]? with
   | none => rw [hq] at hj; cases hj
   | some q =>
    rw [hq] at hj
    have : u = byteV q := (Option.some.inj hj).symm
    rw [this, Nat.zero_add]
    exact hcell j q hq
  ·have hj' : j < news.length := by simpa using hj
   have := hroom (l.length + j) (by omega)
   simpa using this
  ·have hin := World.cell?_setCells_in g (news.map byteV) (0 + l.length * 1) w (fun j hj => by
    have hj' : j < news.length := by simpa using hj
    have := (hroom (l.length + j) (by omega)).1
    simpa using this)
   have hsz : (w.setCells g (0 + l.length * 1) (news.map byteV)).heap.size ≥ w.heap.size := (below_setCells (B := 0) (Nat.zero_le _) (news.map byteV) _ w w (Below.refl _ _)).size
   refine k _ _ (.inr ⟨g, cap, by simp, hgb, Nat.lt_of_lt_of_le hgl hsz, by simp; omega, fun j q hj => ?_, fun j hj => ?_⟩) (below_setCells hgb _ _ _ _ (Below.refl _ _))
   ·by_cases hjl : j < l.length
    ·rw [World.cell?_setCells_out _ _ _ _ _ (fun _ _ => .inl (by show j < 0 + l.length * 1; omega))]
     exact hcell j q (by rwa [List.getElem?_append_left hjl] at hj)
    ·rw [List.getElem?_append_right (by omega)] at hj
     have hjn : j - l.length < news.length := (List.getElem?_eq_some_iff.1 hj).1
     have h9 := hin (j - l.length) (by simpa using hjn)
     rw [show 0 + l.length * 1 + (j - l.length) = j by omega] at h9
     rw [h9]
     rw [List.getElem?_eq_getElem hjn] at hj
     simp [Option.some.inj hj]
   ·refine ⟨World.isSome_setCells _ _ _ _ _ (hroom j hj).1, ?_⟩
    rw [World.frozen?_setCells]; exact (hroom j hj).2
  ·refine k v' w' ((Has.of_own (by simpa using hown)).mono hb) ((Below.refl _ _).grown hgrow hb (fun q hq => by cases hq))
end Go.ByteRow
