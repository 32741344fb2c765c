/- Several texts in one: ShaMath, Bytes. -/
import Derived.Laws.Entries
import Derived.Laws.Bits64
import Derived.WalkKit
import Derived.ArgAppend
import Derived.Laws.IdiomStrings
import Derived.Laws.IdiomCopy
import Derived.Deep.MidRow
import Derived.Deep.Draws
/- Plain arithmetic on 64-bit words for the digests: rotation, the steps of SHA-512, its message schedule; no program text is named here. -/
namespace Go.Sha
/-- x turned to the right by k bits, as the walk writes it. -/
def rotr (x k : Int) : Int := bits .or .u64 (x / 2 ^ k.toNat) (IntKind.u64.wrap (x * 2 ^ (64 - k).toNat))
theorem bits_or_comm (k : IntKind) (x y : Int) : bits .or k x y = bits .or k y x := by
  simp only [bits, BitVec.or_comm]
theorem rotr_turned (x k : Int) : bits .or .u64 (IntKind.u64.wrap (x * 2 ^ (64 - k).toNat)) (x / 2 ^ k.toNat) = rotr x k := bits_or_comm _ _ _
theorem and63_nat (k : Nat) (h0 : 0 < k) (h1 : k < 64) : bits .and .u64 (IntKind.u64.wrap (-(k : Int))) 63 = 64 - (k : Int) := by
  have key : ∀ k : Nat, k < 64 → 0 < k → bits .and .u64 (IntKind.u64.wrap (-(k : Int))) 63 = 64 - (k : Int) := by decide +kernel
  exact key k h1 h0
theorem and63 (k : Int) (h0 : 0 < k) (h1 : k < 64) : bits .and .u64 (IntKind.u64.wrap (-k)) 63 = 64 - k := by
  obtain ⟨n, rfl⟩ := Int.eq_ofNat_of_zero_le (by omega : 0 ≤ k)
  exact and63_nat n (by omega) (by omega)
def turn3 (x i j k : Int) : Int := bits .xor .u64 (bits .xor .u64 (rotr x i) (rotr x j)) (rotr x k)
def shift3 (x i j k : Int) : Int := bits .xor .u64 (bits .xor .u64 (rotr x i) (rotr x j)) (x / 2 ^ k.toNat)
def add (x y : Int) : Int := IntKind.u64.wrap (x + y)

/-- The number that bytes are, the highest first. -/
def beN : List UInt8 → Int → Int
  | [], n => n
  | c :: r, n => beN r (IntKind.u64.wrap (n * 256 + c.toNat))
/-- The next word of the schedule behind those of 'l'. -/
def nxt (s : List UInt8) (l : List Int) : Int :=
  if l.length < 16 then beN ((s.drop (8 * l.length)).take 8) 0
  else add (add (add (l.getD (l.length - 16) 0) (shift3 (l.getD (l.length - 15) 0) 1 8 7)) (l.getD (l.length - 7) 0)) (shift3 (l.getD (l.length - 2) 0) 19 61 6)
def sch (s : List UInt8) : Nat → List Int
  | 0 => []
  | n + 1 => sch s n ++ [nxt s (sch s n)]
theorem sch_length (s : List UInt8) (n : Nat) : (sch s n).length = n := by
  induction n with
  | zero => rfl
  | succ n ih => simp [sch, ih]
def wd (s : List UInt8) (i : Nat) : Int := (sch s (i + 1)).getD i 0
theorem wd_nxt (s : List UInt8) (i : Nat) : wd s i = nxt s (sch s i) := by
  have := sch_length s i
  simp [wd, sch, this]
theorem sch_getD (s : List UInt8) (n i : Nat) (h : i < n) : (sch s n).getD i 0 = wd s i := by
  induction n with
  | zero => omega
  | succ n ih =>
    have hl := sch_length s n
    by_cases e : i = n
    · subst e; rfl
    · have : i < n := by omega
      rw [← ih this]
      simp only [sch, List.getD_eq_getElem?_getD]
      rw [List.getElem?_append_left (by omega)]
theorem wd_word (s : List UInt8) (i : Nat) (h : i < 16) : wd s i = beN ((s.drop (8 * i)).take 8) 0 := by
  rw [wd_nxt, nxt, sch_length, if_pos h]
theorem wd_later (s : List UInt8) (i : Nat) (h : 16 ≤ i) :
    wd s i = add (add (add (wd s (i - 16)) (shift3 (wd s (i - 15)) 1 8 7)) (wd s (i - 7))) (shift3 (wd s (i - 2)) 19 61 6) := by
  rw [wd_nxt, nxt, sch_length, if_neg (by omega), sch_getD _ _ _ (by omega), sch_getD _ _ _ (by omega), sch_getD _ _ _ (by omega), sch_getD _ _ _ (by omega)]
/-- Eighty words as cells. -/
def cells80 (f : Nat → Int) : Array Value := ((List.range 80).map fun i => Value.int .u64 (f i)).toArray
theorem cells80_size (f : Nat → Int) : (cells80 f).size = 80 := by simp [cells80]
theorem cells80_at (f : Nat → Int) (i : Nat) (h : i < 80) : (cells80 f)[i]? = some (.int .u64 (f i)) := by
  simp [cells80, h]
theorem cells80_of (f : Nat → Int) (cs : Array Value) (hs : cs.size = 80) (h : ∀ i, i < 80 → cs[i]? = some (.int .u64 (f i))) : cs = cells80 f := by
  apply Array.ext_getElem?
  intro i
  by_cases hi : i < 80
  · rw [h i hi, cells80_at f i hi]
  · rw [Array.getElem?_eq_none (by omega), Array.getElem?_eq_none (by rw [cells80_size]; omega)]

structure St where
  a : Int
  b : Int
  c : Int
  d : Int
  e : Int
  f : Int
  g : Int
  h : Int
def St.cells (s : St) : Array Value := #[.int .u64 s.a, .int .u64 s.b, .int .u64 s.c, .int .u64 s.d, .int .u64 s.e, .int .u64 s.f, .int .u64 s.g, .int .u64 s.h]
def inv (x : Int) : Int := bits .xor .u64 (if IntKind.u64.signed = true then -1 else IntKind.u64.max) x
def t1 (s : St) (k w : Int) : Int := add (add (add (add s.h (turn3 s.e 14 18 41)) (bits .xor .u64 (bits .and .u64 s.e s.f) (bits .and .u64 (inv s.e) s.g))) k) w
def t2 (s : St) : Int := add (turn3 s.a 28 34 39) (bits .xor .u64 (bits .xor .u64 (bits .and .u64 s.a s.b) (bits .and .u64 s.a s.c)) (bits .and .u64 s.b s.c))
def step (s : St) (k w : Int) : St := ⟨add (t1 s k w) (t2 s), s.a, s.b, s.c, add s.d (t1 s k w), s.e, s.f, s.g⟩
def steps (k w : Nat → Int) (s : St) : Nat → St
  | 0 => s
  | n + 1 => step (steps k w s n) (k n) (w n)
def St.plus (s t : St) : St := ⟨add s.a t.a, add s.b t.b, add s.c t.c, add s.d t.d, add s.e t.e, add s.f t.f, add s.g t.g, add s.h t.h⟩
theorem bits_or_u64_nat (a b : Nat) (ha : a < 18446744073709551616) (hb : b < 18446744073709551616) :
    bits .or .u64 (a : Int) (b : Int) = ((a ||| b : Nat) : Int) := by
  have hx : a ||| b < 2 ^ 64 := Nat.or_lt_two_pow (by omega) (by omega)
  have h1 : (BitVec.ofInt 64 (a : Int)).toNat = a := by
    rw [BitVec.ofInt_natCast, BitVec.toNat_ofNat]; exact Nat.mod_eq_of_lt (by omega)
  have h2 : (BitVec.ofInt 64 (b : Int)).toNat = b := by
    rw [BitVec.ofInt_natCast, BitVec.toNat_ofNat]; exact Nat.mod_eq_of_lt (by omega)
  show IntKind.u64.wrap ((BitVec.ofInt 64 (a : Int) ||| BitVec.ofInt 64 (b : Int)).toNat : Int) = _
  rw [BitVec.toNat_or, h1, h2, IntKind.wrap_u64]
  omega
theorem or_byte (x : Int) (c : Nat) (hc : c < 256) :
    bits .or .u64 (IntKind.u64.wrap (x * 256)) (IntKind.u64.wrap (c : Int)) = IntKind.u64.wrap (x * 256 + c) := by
  obtain ⟨y, hy⟩ := Int.eq_ofNat_of_zero_le (Int.emod_nonneg x (by decide : (72057594037927936 : Int) ≠ 0))
  have hlt : (y : Int) < 72057594037927936 := by rw [← hy]; exact Int.emod_lt_of_pos _ (by decide)
  have e1 : IntKind.u64.wrap (x * 256) = ((y * 256 : Nat) : Int) := by rw [IntKind.wrap_u64]; omega
  have e2 : IntKind.u64.wrap (c : Int) = ((c : Nat) : Int) := by rw [IntKind.wrap_u64]; omega
  have e3 : IntKind.u64.wrap (x * 256 + c) = ((y * 256 + c : Nat) : Int) := by rw [IntKind.wrap_u64]; omega
  rw [e1, e2, e3, bits_or_u64_nat _ _ (by omega) (by omega)]
  have := Nat.shiftLeft_add_eq_or_of_lt (i := 8) hc y
  rw [Nat.shiftLeft_eq] at this
  exact congrArg _ this.symm
theorem beN_snoc (l : List UInt8) (c : UInt8) (n : Int) : beN (l ++ [c]) n = IntKind.u64.wrap (beN l n * 256 + c.toNat) := by
  induction l generalizing n with
  | nil => rfl
  | cons d r ih => exact ih _
theorem beN_or (l : List UInt8) (c : UInt8) (n : Int) : bits .or .u64 (IntKind.u64.wrap (beN l n * 256)) (IntKind.u64.wrap (c.toNat : Int)) = beN (l ++ [c]) n := by
  rw [beN_snoc]; exact or_byte _ _ c.toNat_lt
theorem take_snoc (s : ByteArray) (k : Nat) (h : k < s.size) : s.data.toList.take (k + 1) = s.data.toList.take k ++ [s[k]] := by
  rw [List.take_succ_eq_append_getElem (by simpa using h)]; rfl
theorem extract_list (s : ByteArray) (a b : Nat) : (s.extract a b).data.toList = (s.data.toList.drop a).take (b - a) := by
  rw [ByteArray.data_extract, Array.toList_extract]
def few (s : ByteArray) : ByteArray := if 700 < s.size then s.extract 0 700 else s
theorem few_size (s : ByteArray) : (few s).size ≤ 700 := by
  unfold few; split
  · simp [ByteArray.size_extract]; omega
  · omega
theorem wrap_i64 (n : Int) (h0 : -9223372036854775808 ≤ n) (h1 : n < 9223372036854775808) : IntKind.i64.wrap n = n := by
  simp only [IntKind.wrap, IntKind.bits, IntKind.signed]
  simp only [show (2 : Int) ^ 64 = 18446744073709551616 from by decide, show (2 : Int) ^ (64 - 1) = 9223372036854775808 from by decide]
  split
  · rename_i h; simp at h; omega
  · rename_i h; simp at h; omega
/-- The numbers of the steps. -/
def kl : List Int := [4794697086780616226, 8158064640168781261, 13096744586834688815, 16840607885511220156, 4131703408338449720, 6480981068601479193, 10538285296894168987, 12329834152419229976, 15566598209576043074, 1334009975649890238, 2608012711638119052, 6128411473006802146, 8268148722764581231, 9286055187155687089, 11230858885718282805, 13951009754708518548, 16472876342353939154, 17275323862435702243, 1135362057144423861, 2597628984639134821, 3308224258029322869, 5365058923640841347, 6679025012923562964, 8573033837759648693, 10970295158949994411, 12119686244451234320, 12683024718118986047, 13788192230050041572, 14330467153632333762, 15395433587784984357, 489312712824947311, 1452737877330783856, 2861767655752347644, 3322285676063803686, 5560940570517711597, 5996557281743188959, 7280758554555802590, 8532644243296465576, 9350256976987008742, 10552545826968843579, 11727347734174303076, 12113106623233404929, 14000437183269869457, 14369950271660146224, 15101387698204529176, 15463397548674623760, 17586052441742319658, 1182934255886127544, 1847814050463011016, 2177327727835720531, 2830643537854262169, 3796741975233480872, 4115178125766777443, 5681478168544905931, 6601373596472566643, 7507060721942968483, 8399075790359081724, 8693463985226723168, 9568029438360202098, 10144078919501101548, 10430055236837252648, 11840083180663258601, 13761210420658862357, 14299343276471374635, 14566680578165727644, 15097957966210449927, 16922976911328602910, 17689382322260857208, 500013540394364858, 748580250866718886, 1242879168328830382, 1977374033974150939, 2944078676154940804, 3659926193048069267, 4368137639120453308, 4836135668995329356, 5532061633213252278, 6448918945643986474, 6902733635092675308, 7801388544844847127]
def kk (i : Nat) : Int := kl.getD i 0
/-- The numbers ahead of all bytes. -/
def start : St := ⟨7640891576956012808, 13503953896175478587, 4354685564936845355, 11912009170470909681, 5840696475078001361, 11170449401992604703, 2270897969802886507, 6620516959819538809⟩
/-- The numbers behind a block. -/
def mix (h : St) (s : List UInt8) : St := h.plus (steps kk (wd s) h 80)
/-- The word number j when k bytes have been taken. -/
def pw (s : List UInt8) (k j : Nat) : Int := beN ((s.drop (8 * j)).take (min 8 (k - 8 * j))) 0
theorem pw_zero (s : List UInt8) (j : Nat) : pw s 0 j = 0 := by simp [pw, beN]
theorem pw_whole (s : List UInt8) (j : Nat) (h : j < 16) : pw s 128 j = wd s j := by
  rw [wd_word _ _ h, pw, show min 8 (128 - 8 * j) = 8 by omega]
theorem pw_other (s : List UInt8) (k j : Nat) (h : j ≠ k / 8) : pw s (k + 1) j = pw s k j := by
  rw [pw, pw, show min 8 (k + 1 - 8 * j) = min 8 (k - 8 * j) by omega]
theorem pw_next (s : ByteArray) (k : Nat) (h : k < s.size) : pw s.data.toList (k + 1) (k / 8) = IntKind.u64.wrap (IntKind.u64.wrap (pw s.data.toList k (k / 8) * 256) + IntKind.u64.wrap (s[k].toNat : Int)) := by
  have e1 : min 8 (k + 1 - 8 * (k / 8)) = k - 8 * (k / 8) + 1 := by omega
  have e2 : min 8 (k - 8 * (k / 8)) = k - 8 * (k / 8) := by omega
  have e3 : ((s.data.toList.drop (8 * (k / 8))).take (k - 8 * (k / 8) + 1)) = ((s.data.toList.drop (8 * (k / 8))).take (k - 8 * (k / 8))) ++ [s[k]] := by
    have hl : s.data.toList.length = s.size := by simp
    rw [List.take_succ_eq_append_getElem (by rw [List.length_drop, hl]; omega)]
    congr 2
    rw [List.getElem_drop]
    show s.data.toList[_] = s.data[k]
    rw [Array.getElem_toList]
    congr 1
    omega
  rw [pw, pw, e1, e2, e3, beN_snoc]
  simp only [IntKind.wrap_u64]
  omega
theorem ref_inv (x : Int) : IntKind.u64.wrap (18446744073709551615 - x) = inv x := by
  obtain ⟨y, hy⟩ := Int.eq_ofNat_of_zero_le (Int.emod_nonneg x (by decide : (18446744073709551616 : Int) ≠ 0))
  have hlt : (y : Int) < 18446744073709551616 := by rw [← hy]; exact Int.emod_lt_of_pos _ (by decide)
  have e1 : BitVec.ofInt 64 x = BitVec.ofNat 64 y := by
    apply BitVec.eq_of_toNat_eq
    rw [BitVec.toNat_ofInt, BitVec.toNat_ofNat]
    omega
  have e2 : BitVec.ofInt 64 (if IntKind.u64.signed = true then -1 else IntKind.u64.max) = BitVec.allOnes 64 := by decide +kernel
  show _ = IntKind.u64.wrap ((BitVec.ofInt 64 (if IntKind.u64.signed = true then -1 else IntKind.u64.max) ^^^ BitVec.ofInt 64 x).toNat : Int)
  rw [e1, e2, BitVec.allOnes_xor, BitVec.toNat_not, BitVec.toNat_ofNat, IntKind.wrap_u64, IntKind.wrap_u64]
  omega
/-- A byte as a cell. -/
def byteV (c : UInt8) : Value := .int .u8 (c.toNat : Int)
def byteOf (y : Int) : UInt8 := UInt8.ofNat (y % 256).toNat
theorem wrap_u8 (y : Int) : IntKind.u8.wrap y = ((byteOf y).toNat : Int) := by
  simp [IntKind.wrap, IntKind.bits, IntKind.signed, byteOf]
  omega
theorem byteV_of (y : Int) : byteV (byteOf y) = .int .u8 (y % 256) := by
  simp only [byteV, ← wrap_u8]
  simp [IntKind.wrap, IntKind.bits, IntKind.signed]
/-- The lowest m bytes of a number, the highest first. -/
def be (x : Int) : Nat → List UInt8
  | 0 => []
  | m + 1 => byteOf (x / 2 ^ (8 * m)) :: be x m
theorem be_length (x : Int) (m : Nat) : (be x m).length = m := by
  induction m with
  | zero => rfl
  | succ m ih => simp [be, ih]
/-- So many blocks mixed in, one behind the other. -/
def mixN (h : St) (l : List UInt8) : Nat → St
  | 0 => h
  | n + 1 => mixN (mix h (l.take 128)) (l.drop 128) n
def mixAll (h : St) (l : List UInt8) : St := mixN h l (l.length / 128)
theorem mixAll_step (h : St) (l : List UInt8) (hl : 128 ≤ l.length) : mixAll h l = mixAll (mix h (l.take 128)) (l.drop 128) := by
  unfold mixAll
  rw [show l.length / 128 = (l.drop 128).length / 128 + 1 by rw [List.length_drop]; omega]
  rfl
theorem mixAll_end (h : St) (l : List UInt8) (hl : l.length < 128) : mixAll h l = h := by
  unfold mixAll
  rw [show l.length / 128 = 0 by omega]
  rfl
theorem mixN_append (n : Nat) : ∀ (h : St) (a b : List UInt8), a.length = 128 * n → mixAll h (a ++ b) = mixAll (mixN h a n) b := by
  induction n with
  | zero => intro h a b ha; have : a = [] := List.length_eq_zero_iff.1 (by omega); subst this; rfl
  | succ n ih =>
    intro h a b ha
    rw [mixAll_step _ _ (by rw [List.length_append]; omega), List.take_append_of_le_length (by omega), List.drop_append_of_le_length (by omega), ih _ _ _ (by rw [List.length_drop]; omega)]
    rfl
theorem mixAll_append (h : St) (a b : List UInt8) (ha : a.length % 128 = 0) : mixAll h (a ++ b) = mixAll (mixAll h a) b := by
  rw [mixN_append (a.length / 128) h a b (by omega)]; rfl
theorem extract_size (r : ByteArray) (k : Nat) : (r.extract k r.size).data.toList = r.data.toList.drop k := by
  rw [extract_list, List.take_of_length_le (by simp)]
theorem mixAll_extract (u : St) (r : ByteArray) (h : 128 ≤ r.size) : mixAll (mix u (r.extract 0 128).data.toList) (r.extract 128 r.size).data.toList = mixAll u r.data.toList := by
  rw [mixAll_step u _ (by simpa using h), extract_size, extract_list]
  rfl
end Go.Sha
/- A slice of bytes that a call has made, wherever it lies: what it holds, that it may be written up to its capacity; what append does to it; of no program. -/
namespace Go.ByteRow
open Go.RowKit Go.Sha
/-- The slice value v holds the bytes l; it is nil, or lies at the head of a block from 'base' on, all of whose cells up to the capacity are there and may be written. -/
def Has (base : Nat) (w : World) (v : Value) (l : List UInt8) : Prop :=
  (v = .slice none 0 0 ∧ l = []) ∨
  ∃ g cap, v = .slice (some ⟨g, 0, none⟩) l.length cap ∧ base ≤ g ∧ g < w.heap.size ∧ l.length ≤ cap ∧
    (∀ j c, l[j]? = some c → w.cell? ⟨g, j, none⟩ = some (byteV c)) ∧
    (∀ j, j < cap → (w.cell? ⟨g, j, none⟩).isSome = true ∧ w.frozen? ⟨g, j, none⟩ = false)
theorem Has.nil (base : Nat) (w : World) : Has base w (.slice none 0 0) [] := .inl ⟨rfl, rfl⟩
theorem Has.below {base B : Nat} {w w' : World} {v : Value} {l : List UInt8} (h : Has base w v l) (hb : Below B w w') (hB : w.heap.size ≤ B) : Has base w' v l := by
  rcases h with h | ⟨g, cap, h1, h2, h3, h4, h5, h6⟩
  · exact .inl h
  · refine .inr ⟨g, cap, h1, h2, Nat.lt_of_lt_of_le h3 hb.size, h4, fun j c hj => ?_, fun j hj => ?_⟩
    · rw [hb.cell (p := ⟨g, j, none⟩) (by show g < B; omega)]; exact h5 j c hj
    · rw [hb.cell (p := ⟨g, j, none⟩) (by show g < B; omega), hb.frozen (p := ⟨g, j, none⟩) (by show g < B; omega)]; exact h6 j hj
theorem Has.alloc {base : Nat} {w : World} {v : Value} {l : List UInt8} (h : Has base w v l) (o : Obj) : Has base (w.alloc o) v l :=
  h.below ((Below.refl _ _).alloc (Nat.le_refl _) o) (Nat.le_refl _)
theorem Has.drewN {base : Nat} {w : World} {v : Value} {l : List UInt8} (h : Has base w v l) (n : Nat) : Has base (w.drewN n) v l := h
theorem Has.mono {base base' : Nat} {w : World} {v : Value} {l : List UInt8} (h : Has base w v l) (hb : base' ≤ base) : Has base' w v l := by
  rcases h with h | ⟨g, cap, h1, h2, h3⟩
  · exact .inl h
  · exact .inr ⟨g, cap, h1, Nat.le_trans hb h2, h3⟩
theorem Has.of_own {base e : Nat} {w : World} {v : Value} {n : Nat} {l : List UInt8} (h : w.ownsRow base e 1 v n (l.map byteV)) : Has base w v l := by
  obtain ⟨h0, h1⟩ := h
  have hn : n = l.length := by simpa using h0.symm
  subst hn
  rcases h1 with ⟨h1, h2⟩ | ⟨g, cap, cur, h1, h2, h3, h4, _, h6, h7⟩
  · exact .inl ⟨h1, List.length_eq_zero_iff.1 h2⟩
  · have hlt : g < w.heap.size := by
      rcases Nat.lt_or_ge g w.heap.size with h | h
      · exact h
      · rw [Array.getElem?_eq_none h] at h3; cases h3
    refine .inr ⟨g, cap, h1, h2, hlt, h4, fun j c hj => ?_, fun j hj => ?_⟩
    · have hjl : j < l.length := (List.getElem?_eq_some_iff.1 hj).1
      rw [cell_of_row _ _ _ _ _ _ h3, ← Array.getElem?_toList]
      have : (cur.toList.take (l.length * 1))[j]? = some (byteV c) := by rw [h7, List.getElem?_map, hj]; rfl
      rwa [List.getElem?_take_of_lt (by omega)] at this
    · exact ⟨by rw [cell_of_row _ _ _ _ _ _ h3, Array.getElem?_eq_getElem (by omega)]; rfl, frozen_of_row _ _ _ _ _ h3⟩
theorem Has.length_of {base : Nat} {w : World} {v : Value} {l : List UInt8} (h : Has base w v l) : (∃ a c, v = .slice a l.length c) := by
  rcases h with ⟨h, rfl⟩ | ⟨g, cap, h1, _⟩
  · exact ⟨none, 0, h⟩
  · exact ⟨_, cap, h1⟩
theorem Has.form {base : Nat} {w : World} {v : Value} {l : List UInt8} (h : Has base w v l) (hl : l ≠ []) : ∃ g cap, v = .slice (some ⟨g, 0, none⟩) l.length cap ∧ l.length ≤ cap := by
  rcases h with ⟨_, h⟩ | ⟨g, cap, h1, _, _, h4, _⟩
  · exact absurd h hl
  · exact ⟨g, cap, h1, h4⟩
theorem below_setCells {B b : Nat} (hb : B ≤ b) : ∀ (vs : List Value) (o : Nat) (w w1 : World), Below B w w1 → Below B w (w1.setCells b o vs)
  | [], _, _, _, h => h
  | _ :: vs, o, w, _, h => below_setCells hb vs (o + 1) w _ (h.setCell hb _)
/-- append(b, x...) onto such a slice. -/
theorem append {P : Program} (w : World) {ops : Array Oper} {rest : List Oper} {o : Oper} {a : Act} {Q : Exit → Act → World → Prop}
    (hg : o.guard = none) (s x : Operand) (t : TypeId) (hop : o.op = Op.call { callee := Callee.builtin Builtin.append, args := #[s, x], argTypes := #[t, t] })
    (e : TypeId) (i : TypeInfo) (h1 : P.underlying t = some (.slice e)) (h2 : P.info? e = some i) (h3 : i.zero = some (.int .u8 0)) (h4 : i.size = 1) (h5 : i.bytes = 1)
    (base : Nat) (v : Value) (l : List UInt8) (hs : a.eval s = v) (hh : Has base w v l) (hb : base ≤ w.heap.size)
    (ad : Addr) (m c : Nat) (news : List UInt8) (hx : a.eval x = .slice (some ad) m c) (hm : news.length = m) (hc : ∀ j u, (news.map byteV)[j]? = some u → w.cell? (ad.add j) = some u)
    (hlen : l.length + news.length ≤ 1099511627776)
    (k : ∀ v' w', Has base w' v' (l ++ news) → Below base w w' → wpList P ops Q rest (a.put o.dst v') w') :
    wpList P ops Q (o :: rest) a w := by
  subst hm
  have hone : ∀ u ∈ news.map byteV, u.oneCell' = true := by
    intro u hu
    obtain ⟨q, _, rfl⟩ := List.mem_map.1 hu
    rfl
  rcases hh with ⟨hv, rfl⟩ | ⟨g, cap, hv, hgb, hgl, hcap, hcell, hroom⟩
  · refine wpList_append_own w hg s x t hop base e i (.int .u8 0) 1 1 h1 h2 h3 h4 h5 rfl (by decide) v 0 [] hs (by rw [hv]; exact World.ownsRow_nil _ _ _ _) ad news.length c (news.map byteV) hx (by simp) hc hone (by unfold maxLen; omega) (by omega) hb ?_
    intro v' w' hown hgrow _
    refine k v' w' (Has.of_own (by simpa using hown)) ((Below.refl _ _).grown hgrow hb (fun q hq => by rw [hv] at hq; cases hq))
  · refine wpList_append_arg w hg s x t hop e i (.int .u8 0) 1 1 h1 h2 h3 h4 h5 rfl (by decide) g 0 l.length cap (l.map byteV) (by rw [hs, hv]) (by simp) (fun j u hj => ?_) ad news.length c (news.map byteV) hx (by simp) hc hone (fun hr j hj => ?_) (by unfold maxLen; omega) (by omega) (fun hr => ?_) (fun hr v' w' hown hgrow => ?_)
    · rw [List.getElem?_map] at hj
      cases hq : l[j]? with
      | none => rw [hq] at hj; cases hj
      | some q =>
        rw [hq] at hj
        have : u = byteV q := (Option.some.inj hj).symm
        rw [this, Nat.zero_add]
        exact hcell j q hq
    · have hj' : j < news.length := by simpa using hj
      have := hroom (l.length + j) (by omega)
      simpa using this
    · have hin := World.cell?_setCells_in g (news.map byteV) (0 + l.length * 1) w (fun j hj => by
        have hj' : j < news.length := by simpa using hj
        have := (hroom (l.length + j) (by omega)).1
        simpa using this)
      have hsz : (w.setCells g (0 + l.length * 1) (news.map byteV)).heap.size ≥ w.heap.size := (below_setCells (B := 0) (Nat.zero_le _) (news.map byteV) _ w w (Below.refl _ _)).size
      refine k _ _ (.inr ⟨g, cap, by simp, hgb, Nat.lt_of_lt_of_le hgl hsz, by simp; omega, fun j q hj => ?_, fun j hj => ?_⟩) (below_setCells hgb _ _ _ _ (Below.refl _ _))
      · by_cases hjl : j < l.length
        · rw [World.cell?_setCells_out _ _ _ _ _ (fun _ _ => .inl (by show j < 0 + l.length * 1; omega))]
          exact hcell j q (by rwa [List.getElem?_append_left hjl] at hj)
        · rw [List.getElem?_append_right (by omega)] at hj
          have hjn : j - l.length < news.length := (List.getElem?_eq_some_iff.1 hj).1
          have h9 := hin (j - l.length) (by simpa using hjn)
          rw [show 0 + l.length * 1 + (j - l.length) = j by omega] at h9
          rw [h9]
          rw [List.getElem?_eq_getElem hjn] at hj
          simp [Option.some.inj hj]
      · refine ⟨World.isSome_setCells _ _ _ _ _ (hroom j hj).1, ?_⟩
        rw [World.frozen?_setCells]; exact (hroom j hj).2
    · refine k v' w' ((Has.of_own (by simpa using hown)).mono hb) ((Below.refl _ _).grown hgrow hb (fun q hq => by cases hq))
/-- []byte(s). -/
theorem of_string {P : Program} (w : World) {ops : Array Oper} {rest : List Oper} {o : Oper} {a : Act} {Q : Exit → Act → World → Prop}
    (hg : o.guard = none) (src dst e : TypeId) (x : Operand) (hop : o.op = .convert src dst x) (s : ByteArray) (hx : a.eval x = .string s)
    (hs : P.underlying src = some .string) (hd : P.underlying dst = some (.slice e)) (he : P.underlying e = some (.int .u8))
    (k : ∀ v' w', Has w.heap.size w' v' s.data.toList → Below w.heap.size w w' → wpList P ops Q rest (a.put o.dst v') w') : wpList P ops Q (o :: rest) a w := by
  have hh0 : ∀ ob, (w.drew.alloc ob).heap[w.heap.size]? = some ob := fun ob => heap_alloc_new w.drew ob
  refine wpList_plain hg fun K hK => ?_
  unfold Oper.wp execOp
  simp only [hop, hx, Sem.run_bind, run_bytes_of_string w src dst e s hs hd he, Result.andThen_ok]
  refine hK _ _ (k _ _ (.inr ⟨w.heap.size, grownCap w s.size 0 e, by simp, Nat.le_refl _, by simp, ?_, fun j c hj => ?_, fun j hj => ?_⟩) ?_)
  · simpa using grownCap_ge w s.size 0 e
  · have hjl : j < s.size := by have := (List.getElem?_eq_some_iff.1 hj).1; simpa using this
    rw [cell_of_row _ _ _ _ _ _ (hh0 _)]
    rw [bytesRow, Array.getElem?_append_left (by simpa using hjl), Array.getElem?_map, ← Array.getElem?_toList, hj]
    rfl
  · have hge := grownCap_ge w s.size 0 e
    refine ⟨?_, ?_⟩
    · rw [cell_of_row _ _ _ _ _ _ (hh0 _), Array.getElem?_eq_getElem (by simp [bytesRow]; have : s.data.size = s.size := rfl; omega)]
      rfl
    · have hz : (bytesRow s (grownCap w s.size 0 e)).size = grownCap w s.size 0 e := by simp [bytesRow]; have : s.data.size = s.size := rfl; omega
      rw [hz]
      have hh : (w.drew.alloc (.cells (bytesRow s (grownCap w s.size 0 e)) e (grownCap w s.size 0 e, grownCap w s.size 0 e + 1))).heap[w.heap.size]? = some (.cells (bytesRow s (grownCap w s.size 0 e)) e (grownCap w s.size 0 e, grownCap w s.size 0 e + 1)) := heap_alloc_new w.drew _
      simp only [World.frozen?, hh]
      simp
      omega
  · exact ((Below.refl _ _).drew).alloc (Nat.le_refl _) _
/-- string(b). -/
theorem to_string {P : Program} (w : World) {ops : Array Oper} {rest : List Oper} {o : Oper} {a : Act} {Q : Exit → Act → World → Prop}
    (hg : o.guard = none) (src dst e : TypeId) (x : Operand) (hop : o.op = .convert src dst x) {base : Nat} {v : Value} (l : List UInt8) (hx : a.eval x = v) (hh : Has base w v l) (hl : l ≠ [])
    (hs : P.underlying src = some (.slice e)) (he : P.underlying e = some (.int .u8)) (hd : P.underlying dst = some .string)
    (k : wpList P ops Q rest (a.put o.dst (.string ⟨l.toArray⟩)) w) : wpList P ops Q (o :: rest) a w := by
  rcases hh with ⟨_, h⟩ | ⟨g, cap, hv, _, _, _, hcell, _⟩
  · exact absurd h hl
  · have hadd : ∀ j, (⟨g, 0, none⟩ : Addr).add j = ⟨g, j, none⟩ := fun j => by unfold Addr.add; split <;> simp_all
    have hr := run_convert_bytes_back (P := P) w src dst e ⟨g, 0, none⟩ cap l hs he hd (fun j hj => by rw [hadd]; exact hcell j _ (List.getElem?_eq_getElem hj))
    refine wpList_plain hg fun K hK => ?_
    unfold Oper.wp execOp
    simp only [hop, hx, hv, Sem.run_bind, hr, Result.andThen_ok]
    exact hK _ _ k
/-- b[:n]. -/
theorem Has.front {base : Nat} {w : World} {g n cap : Nat} {l : List UInt8} (h : Has base w (.slice (some ⟨g, 0, none⟩) l.length cap) l) (hn : n ≤ l.length) : Has base w (.slice (some ⟨g, 0, none⟩) n cap) (l.take n) := by
  rcases h with ⟨h, _⟩ | ⟨g', cap', h1, h2, h3, h4, h5, h6⟩
  · cases h
  · simp only [Value.slice.injEq, Option.some.injEq, Addr.mk.injEq] at h1
    obtain ⟨⟨rfl, -, -⟩, -, rfl⟩ := h1
    refine .inr ⟨g, cap, by rw [List.length_take_of_le hn], h2, h3, by rw [List.length_take_of_le hn]; omega, fun j c hj => h5 j c ?_, h6⟩
    by_cases hjn : j < n
    · rwa [List.getElem?_take_of_lt hjn] at hj
    · rw [List.getElem?_eq_none (by rw [List.length_take_of_le hn]; omega)] at hj; cases hj
/-- []byte{c}, as it is laid. -/
theorem Has.one {base : Nat} {w : World} (hb : base ≤ w.heap.size) (c : UInt8) (u : Value) (hu : u = byteV c) (e : TypeId) : Has base (w.alloc (.cells #[u] e)) (.slice (some ⟨w.heap.size, 0, none⟩) 1 1) [c] := by
  subst hu
  have hh := heap_alloc_new w (.cells #[byteV c] e (0, 0))
  refine .inr ⟨w.heap.size, 1, rfl, hb, by simp, Nat.le_refl _, fun j d hj => ?_, fun j hj => ?_⟩
  · match j, hj with
    | 0, hj => simp at hj; subst hj; rw [cell_of_row _ _ _ _ _ _ hh]; rfl
  · match j, hj with
    | 0, _ => exact ⟨by rw [cell_of_row _ _ _ _ _ _ hh]; rfl, frozen_of_row _ _ _ _ _ hh⟩
end Go.ByteRow
