/- Several texts in one: ShaMath, ShaMath2, ShaMath3, ShaMath4, Tail, Bytes, Strs, MacMath. -/
import Derived.Laws.Entries
import Derived.Laws.Bits64
import Derived.KernelRfl
import Derived.StillTail
import Derived.Deep.Quiet
import Derived.WalkKit
import Derived.ArgAppend
import Derived.Laws.IdiomStrings
import Derived.Laws.IdiomCopy
import Derived.Deep.MidRow
import Derived.Deep.Draws
import Derived.Laws.BitsAllLaws
/- Plain arithmetic on 64-bit words for the digests: rotation, the steps of SHA-512, its message schedule; no program text is named here. -/
namespace Go.Sha
/-- x turned to the right by k bits, as the walk writes it. -/
def rotr (x k : Int) : Int := bits .or .u64 (x / 2 ^ k.toNat) (IntKind.u64.wrap (x * 2 ^ (64 - k).toNat))
theorem bits_or_comm (k : IntKind) (x y : Int) : bits .or k x y = bits .or k y x := by
  simp only [bits, BitVec.or_comm]
theorem rotr_turned (x k : Int) : bits .or .u64 (IntKind.u64.wrap (x * 2 ^ (64 - k).toNat)) (x / 2 ^ k.toNat) = rotr x k := bits_or_comm _ _ _
theorem and63_nat (k : Nat) (h0 : 0 < k) (h1 : k < 64) : bits .and .u64 (IntKind.u64.wrap (-(k : Int))) 63 = 64 - (k : Int) := by
  have key : ∀ k : Nat, k < 64 → 0 < k → bits .and .u64 (IntKind.u64.wrap (-(k : Int))) 63 = 64 - (k : Int) := by decide +kernel
  exact key k h1 h0
theorem and63 (k : Int) (h0 : 0 < k) (h1 : k < 64) : bits .and .u64 (IntKind.u64.wrap (-k)) 63 = 64 - k := by
  obtain ⟨n, rfl⟩ := Int.eq_ofNat_of_zero_le (by omega : 0 ≤ k)
  exact and63_nat n (by omega) (by omega)
def turn3 (x i j k : Int) : Int := bits .xor .u64 (bits .xor .u64 (rotr x i) (rotr x j)) (rotr x k)
def shift3 (x i j k : Int) : Int := bits .xor .u64 (bits .xor .u64 (rotr x i) (rotr x j)) (x / 2 ^ k.toNat)
def add (x y : Int) : Int := IntKind.u64.wrap (x + y)

/-- The number that bytes are, the highest first. -/
def beN : List UInt8 → Int → Int
  | [], n => n
  | c :: r, n => beN r (IntKind.u64.wrap (n * 256 + c.toNat))
/-- The next word of the schedule behind those of 'l'. -/
def nxt (s : List UInt8) (l : List Int) : Int :=
  if l.length < 16 then beN ((s.drop (8 * l.length)).take 8) 0
  else add (add (add (l.getD (l.length - 16) 0) (shift3 (l.getD (l.length - 15) 0) 1 8 7)) (l.getD (l.length - 7) 0)) (shift3 (l.getD (l.length - 2) 0) 19 61 6)
def sch (s : List UInt8) : Nat → List Int
  | 0 => []
  | n + 1 => sch s n ++ [nxt s (sch s n)]
theorem sch_length (s : List UInt8) (n : Nat) : (sch s n).length = n := by
  induction n with
  | zero => rfl
  | succ n ih => simp [sch, ih]
def wd (s : List UInt8) (i : Nat) : Int := (sch s (i + 1)).getD i 0
theorem wd_nxt (s : List UInt8) (i : Nat) : wd s i = nxt s (sch s i) := by
  have := sch_length s i
  simp [wd, sch, this]
theorem sch_getD (s : List UInt8) (n i : Nat) (h : i < n) : (sch s n).getD i 0 = wd s i := by
  induction n with
  | zero => omega
  | succ n ih =>
    have hl := sch_length s n
    by_cases e : i = n
    · subst e; rfl
    · have : i < n := by omega
      rw [← ih this]
      simp only [sch, List.getD_eq_getElem?_getD]
      rw [List.getElem?_append_left (by omega)]
theorem wd_word (s : List UInt8) (i : Nat) (h : i < 16) : wd s i = beN ((s.drop (8 * i)).take 8) 0 := by
  rw [wd_nxt, nxt, sch_length, if_pos h]
theorem wd_later (s : List UInt8) (i : Nat) (h : 16 ≤ i) :
    wd s i = add (add (add (wd s (i - 16)) (shift3 (wd s (i - 15)) 1 8 7)) (wd s (i - 7))) (shift3 (wd s (i - 2)) 19 61 6) := by
  rw [wd_nxt, nxt, sch_length, if_neg (by omega), sch_getD _ _ _ (by omega), sch_getD _ _ _ (by omega), sch_getD _ _ _ (by omega), sch_getD _ _ _ (by omega)]
/-- Eighty words as cells. -/
def cells80 (f : Nat → Int) : Array Value := ((List.range 80).map fun i => Value.int .u64 (f i)).toArray
theorem cells80_size (f : Nat → Int) : (cells80 f).size = 80 := by simp [cells80]
theorem cells80_at (f : Nat → Int) (i : Nat) (h : i < 80) : (cells80 f)[i]? = some (.int .u64 (f i)) := by
  simp [cells80, h]
theorem cells80_of (f : Nat → Int) (cs : Array Value) (hs : cs.size = 80) (h : ∀ i, i < 80 → cs[i]? = some (.int .u64 (f i))) : cs = cells80 f := by
  apply Array.ext_getElem?
  intro i
  by_cases hi : i < 80
  · rw [h i hi, cells80_at f i hi]
  · rw [Array.getElem?_eq_none (by omega), Array.getElem?_eq_none (by rw [cells80_size]; omega)]

structure St where
  a : Int
  b : Int
  c : Int
  d : Int
  e : Int
  f : Int
  g : Int
  h : Int
def St.cells (s : St) : Array Value := #[.int .u64 s.a, .int .u64 s.b, .int .u64 s.c, .int .u64 s.d, .int .u64 s.e, .int .u64 s.f, .int .u64 s.g, .int .u64 s.h]
def inv (x : Int) : Int := bits .xor .u64 (if IntKind.u64.signed = true then -1 else IntKind.u64.max) x
def t1 (s : St) (k w : Int) : Int := add (add (add (add s.h (turn3 s.e 14 18 41)) (bits .xor .u64 (bits .and .u64 s.e s.f) (bits .and .u64 (inv s.e) s.g))) k) w
def t2 (s : St) : Int := add (turn3 s.a 28 34 39) (bits .xor .u64 (bits .xor .u64 (bits .and .u64 s.a s.b) (bits .and .u64 s.a s.c)) (bits .and .u64 s.b s.c))
def step (s : St) (k w : Int) : St := ⟨add (t1 s k w) (t2 s), s.a, s.b, s.c, add s.d (t1 s k w), s.e, s.f, s.g⟩
def steps (k w : Nat → Int) (s : St) : Nat → St
  | 0 => s
  | n + 1 => step (steps k w s n) (k n) (w n)
def St.plus (s t : St) : St := ⟨add s.a t.a, add s.b t.b, add s.c t.c, add s.d t.d, add s.e t.e, add s.f t.f, add s.g t.g, add s.h t.h⟩
theorem bits_or_u64_nat (a b : Nat) (ha : a < 18446744073709551616) (hb : b < 18446744073709551616) :
    bits .or .u64 (a : Int) (b : Int) = ((a ||| b : Nat) : Int) := by
  have hx : a ||| b < 2 ^ 64 := Nat.or_lt_two_pow (by omega) (by omega)
  have h1 : (BitVec.ofInt 64 (a : Int)).toNat = a := by
    rw [BitVec.ofInt_natCast, BitVec.toNat_ofNat]; exact Nat.mod_eq_of_lt (by omega)
  have h2 : (BitVec.ofInt 64 (b : Int)).toNat = b := by
    rw [BitVec.ofInt_natCast, BitVec.toNat_ofNat]; exact Nat.mod_eq_of_lt (by omega)
  show IntKind.u64.wrap ((BitVec.ofInt 64 (a : Int) ||| BitVec.ofInt 64 (b : Int)).toNat : Int) = _
  rw [BitVec.toNat_or, h1, h2, IntKind.wrap_u64]
  omega
theorem or_byte (x : Int) (c : Nat) (hc : c < 256) :
    bits .or .u64 (IntKind.u64.wrap (x * 256)) (IntKind.u64.wrap (c : Int)) = IntKind.u64.wrap (x * 256 + c) := by
  obtain ⟨y, hy⟩ := Int.eq_ofNat_of_zero_le (Int.emod_nonneg x (by decide : (72057594037927936 : Int) ≠ 0))
  have hlt : (y : Int) < 72057594037927936 := by rw [← hy]; exact Int.emod_lt_of_pos _ (by decide)
  have e1 : IntKind.u64.wrap (x * 256) = ((y * 256 : Nat) : Int) := by rw [IntKind.wrap_u64]; omega
  have e2 : IntKind.u64.wrap (c : Int) = ((c : Nat) : Int) := by rw [IntKind.wrap_u64]; omega
  have e3 : IntKind.u64.wrap (x * 256 + c) = ((y * 256 + c : Nat) : Int) := by rw [IntKind.wrap_u64]; omega
  rw [e1, e2, e3, bits_or_u64_nat _ _ (by omega) (by omega)]
  have := Nat.shiftLeft_add_eq_or_of_lt (i := 8) hc y
  rw [Nat.shiftLeft_eq] at this
  exact congrArg _ this.symm
theorem beN_snoc (l : List UInt8) (c : UInt8) (n : Int) : beN (l ++ [c]) n = IntKind.u64.wrap (beN l n * 256 + c.toNat) := by
  induction l generalizing n with
  | nil => rfl
  | cons d r ih => exact ih _
theorem beN_or (l : List UInt8) (c : UInt8) (n : Int) : bits .or .u64 (IntKind.u64.wrap (beN l n * 256)) (IntKind.u64.wrap (c.toNat : Int)) = beN (l ++ [c]) n := by
  rw [beN_snoc]; exact or_byte _ _ c.toNat_lt
theorem take_snoc (s : ByteArray) (k : Nat) (h : k < s.size) : s.data.toList.take (k + 1) = s.data.toList.take k ++ [s[k]] := by
  rw [List.take_succ_eq_append_getElem (by simpa using h)]; rfl
theorem extract_list (s : ByteArray) (a b : Nat) : (s.extract a b).data.toList = (s.data.toList.drop a).take (b - a) := by
  rw [ByteArray.data_extract, Array.toList_extract]
def few (s : ByteArray) : ByteArray := if 700 < s.size then s.extract 0 700 else s
theorem few_size (s : ByteArray) : (few s).size ≤ 700 := by
  unfold few; split
  · simp [ByteArray.size_extract]; omega
  · omega
theorem wrap_i64 (n : Int) (h0 : -9223372036854775808 ≤ n) (h1 : n < 9223372036854775808) : IntKind.i64.wrap n = n := by
  simp only [IntKind.wrap, IntKind.bits, IntKind.signed]
  simp only [show (2 : Int) ^ 64 = 18446744073709551616 from by decide, show (2 : Int) ^ (64 - 1) = 9223372036854775808 from by decide]
  split
  · rename_i h; simp at h; omega
  · rename_i h; simp at h; omega
/-- The numbers of the steps. -/
def kl : List Int := [4794697086780616226, 8158064640168781261, 13096744586834688815, 16840607885511220156, 4131703408338449720, 6480981068601479193, 10538285296894168987, 12329834152419229976, 15566598209576043074, 1334009975649890238, 2608012711638119052, 6128411473006802146, 8268148722764581231, 9286055187155687089, 11230858885718282805, 13951009754708518548, 16472876342353939154, 17275323862435702243, 1135362057144423861, 2597628984639134821, 3308224258029322869, 5365058923640841347, 6679025012923562964, 8573033837759648693, 10970295158949994411, 12119686244451234320, 12683024718118986047, 13788192230050041572, 14330467153632333762, 15395433587784984357, 489312712824947311, 1452737877330783856, 2861767655752347644, 3322285676063803686, 5560940570517711597, 5996557281743188959, 7280758554555802590, 8532644243296465576, 9350256976987008742, 10552545826968843579, 11727347734174303076, 12113106623233404929, 14000437183269869457, 14369950271660146224, 15101387698204529176, 15463397548674623760, 17586052441742319658, 1182934255886127544, 1847814050463011016, 2177327727835720531, 2830643537854262169, 3796741975233480872, 4115178125766777443, 5681478168544905931, 6601373596472566643, 7507060721942968483, 8399075790359081724, 8693463985226723168, 9568029438360202098, 10144078919501101548, 10430055236837252648, 11840083180663258601, 13761210420658862357, 14299343276471374635, 14566680578165727644, 15097957966210449927, 16922976911328602910, 17689382322260857208, 500013540394364858, 748580250866718886, 1242879168328830382, 1977374033974150939, 2944078676154940804, 3659926193048069267, 4368137639120453308, 4836135668995329356, 5532061633213252278, 6448918945643986474, 6902733635092675308, 7801388544844847127]
def kk (i : Nat) : Int := kl.getD i 0
/-- The numbers ahead of all bytes. -/
def start : St := ⟨7640891576956012808, 13503953896175478587, 4354685564936845355, 11912009170470909681, 5840696475078001361, 11170449401992604703, 2270897969802886507, 6620516959819538809⟩
/-- The numbers behind a block. -/
def mix (h : St) (s : List UInt8) : St := h.plus (steps kk (wd s) h 80)
/-- The word number j when k bytes have been taken. -/
def pw (s : List UInt8) (k j : Nat) : Int := beN ((s.drop (8 * j)).take (min 8 (k - 8 * j))) 0
theorem pw_zero (s : List UInt8) (j : Nat) : pw s 0 j = 0 := by simp [pw, beN]
theorem pw_whole (s : List UInt8) (j : Nat) (h : j < 16) : pw s 128 j = wd s j := by
  rw [wd_word _ _ h, pw, show min 8 (128 - 8 * j) = 8 by omega]
theorem pw_other (s : List UInt8) (k j : Nat) (h : j ≠ k / 8) : pw s (k + 1) j = pw s k j := by
  rw [pw, pw, show min 8 (k + 1 - 8 * j) = min 8 (k - 8 * j) by omega]
theorem pw_next (s : ByteArray) (k : Nat) (h : k < s.size) : pw s.data.toList (k + 1) (k / 8) = IntKind.u64.wrap (IntKind.u64.wrap (pw s.data.toList k (k / 8) * 256) + IntKind.u64.wrap (s[k].toNat : Int)) := by
  have e1 : min 8 (k + 1 - 8 * (k / 8)) = k - 8 * (k / 8) + 1 := by omega
  have e2 : min 8 (k - 8 * (k / 8)) = k - 8 * (k / 8) := by omega
  have e3 : ((s.data.toList.drop (8 * (k / 8))).take (k - 8 * (k / 8) + 1)) = ((s.data.toList.drop (8 * (k / 8))).take (k - 8 * (k / 8))) ++ [s[k]] := by
    have hl : s.data.toList.length = s.size := by simp
    rw [List.take_succ_eq_append_getElem (by rw [List.length_drop, hl]; omega)]
    congr 2
    rw [List.getElem_drop]
    show s.data.toList[_] = s.data[k]
    rw [Array.getElem_toList]
    congr 1
    omega
  rw [pw, pw, e1, e2, e3, beN_snoc]
  simp only [IntKind.wrap_u64]
  omega
theorem ref_inv (x : Int) : IntKind.u64.wrap (18446744073709551615 - x) = inv x := by
  obtain ⟨y, hy⟩ := Int.eq_ofNat_of_zero_le (Int.emod_nonneg x (by decide : (18446744073709551616 : Int) ≠ 0))
  have hlt : (y : Int) < 18446744073709551616 := by rw [← hy]; exact Int.emod_lt_of_pos _ (by decide)
  have e1 : BitVec.ofInt 64 x = BitVec.ofNat 64 y := by
    apply BitVec.eq_of_toNat_eq
    rw [BitVec.toNat_ofInt, BitVec.toNat_ofNat]
    omega
  have e2 : BitVec.ofInt 64 (if IntKind.u64.signed = true then -1 else IntKind.u64.max) = BitVec.allOnes 64 := by decide +kernel
  show _ = IntKind.u64.wrap ((BitVec.ofInt 64 (if IntKind.u64.signed = true then -1 else IntKind.u64.max) ^^^ BitVec.ofInt 64 x).toNat : Int)
  rw [e1, e2, BitVec.allOnes_xor, BitVec.toNat_not, BitVec.toNat_ofNat, IntKind.wrap_u64, IntKind.wrap_u64]
  omega
/-- A byte as a cell. -/
def byteV (c : UInt8) : Value := .int .u8 (c.toNat : Int)
def byteOf (y : Int) : UInt8 := UInt8.ofNat (y % 256).toNat
theorem wrap_u8 (y : Int) : IntKind.u8.wrap y = ((byteOf y).toNat : Int) := by
  simp [IntKind.wrap, IntKind.bits, IntKind.signed, byteOf]
  omega
theorem byteV_of (y : Int) : byteV (byteOf y) = .int .u8 (y % 256) := by
  simp only [byteV, ← wrap_u8]
  simp [IntKind.wrap, IntKind.bits, IntKind.signed]
/-- The lowest m bytes of a number, the highest first. -/
def be (x : Int) : Nat → List UInt8
  | 0 => []
  | m + 1 => byteOf (x / 2 ^ (8 * m)) :: be x m
theorem be_length (x : Int) (m : Nat) : (be x m).length = m := by
  induction m with
  | zero => rfl
  | succ m ih => simp [be, ih]
/-- So many blocks mixed in, one behind the other. -/
def mixN (h : St) (l : List UInt8) : Nat → St
  | 0 => h
  | n + 1 => mixN (mix h (l.take 128)) (l.drop 128) n
def mixAll (h : St) (l : List UInt8) : St := mixN h l (l.length / 128)
theorem mixAll_step (h : St) (l : List UInt8) (hl : 128 ≤ l.length) : mixAll h l = mixAll (mix h (l.take 128)) (l.drop 128) := by
  unfold mixAll
  rw [show l.length / 128 = (l.drop 128).length / 128 + 1 by rw [List.length_drop]; omega]
  rfl
theorem mixAll_end (h : St) (l : List UInt8) (hl : l.length < 128) : mixAll h l = h := by
  unfold mixAll
  rw [show l.length / 128 = 0 by omega]
  rfl
theorem mixN_append (n : Nat) : ∀ (h : St) (a b : List UInt8), a.length = 128 * n → mixAll h (a ++ b) = mixAll (mixN h a n) b := by
  induction n with
  | zero => intro h a b ha; have : a = [] := List.length_eq_zero_iff.1 (by omega); subst this; rfl
  | succ n ih =>
    intro h a b ha
    rw [mixAll_step _ _ (by rw [List.length_append]; omega), List.take_append_of_le_length (by omega), List.drop_append_of_le_length (by omega), ih _ _ _ (by rw [List.length_drop]; omega)]
    rfl
theorem mixAll_append (h : St) (a b : List UInt8) (ha : a.length % 128 = 0) : mixAll h (a ++ b) = mixAll (mixAll h a) b := by
  rw [mixN_append (a.length / 128) h a b (by omega)]; rfl
theorem extract_size (r : ByteArray) (k : Nat) : (r.extract k r.size).data.toList = r.data.toList.drop k := by
  rw [extract_list, List.take_of_length_le (by simp)]
theorem mixAll_extract (u : St) (r : ByteArray) (h : 128 ≤ r.size) : mixAll (mix u (r.extract 0 128).data.toList) (r.extract 128 r.size).data.toList = mixAll u r.data.toList := by
  rw [mixAll_step u _ (by simpa using h), extract_size, extract_list]
  rfl
end Go.Sha
/- What stands behind a text's bytes ahead of its digest: plain lists. -/
namespace Go.Sha
/-- How many zero bytes follow the mark behind n bytes. -/
def zeros (n : Nat) : Nat := (239 - n % 128) % 128
/-- A text with the mark and the zeros behind it. -/
def marked (l : List UInt8) : List UInt8 := l ++ 128 :: List.replicate (zeros l.length) 0
/-- .. and the count of bits of a text of n bytes. -/
def ended (l : List UInt8) (n : Nat) : List UInt8 := marked l ++ (be 0 8 ++ be (8 * n) 8)
theorem marked_length (l : List UInt8) : (marked l).length = l.length + 1 + zeros l.length := by simp [marked]; omega
theorem marked_mod (l : List UInt8) : (marked l).length % 128 = 112 := by rw [marked_length, zeros]; omega
/-- Part of the zeros. -/
def part (l : List UInt8) (k : Nat) : List UInt8 := l ++ 128 :: List.replicate k 0
theorem part_length (l : List UInt8) (k : Nat) : (part l k).length = l.length + 1 + k := by simp [part]; omega
theorem part_snoc (l : List UInt8) (k : Nat) : part l k ++ [0] = part l (k + 1) := by simp [part, List.replicate_succ']
theorem part_done (l : List UInt8) (k : Nat) (hk : k ≤ zeros l.length) (h : (part l k).length % 128 = 112) : part l k = marked l := by
  rw [part_length] at h
  have : k = zeros l.length := by unfold zeros at *; omega
  rw [this]; rfl
theorem part_more (l : List UInt8) (k : Nat) (hk : k ≤ zeros l.length) (h : (part l k).length % 128 ≠ 112) : k + 1 ≤ zeros l.length := by
  rw [part_length] at h
  unfold zeros at *; omega
theorem ended_append (a b : List UInt8) (n : Nat) (ha : a.length % 128 = 0) : ended (a ++ b) n = a ++ ended b n := by
  have : zeros (a ++ b).length = zeros b.length := by rw [List.length_append]; unfold zeros; omega
  unfold ended marked
  rw [this]
  simp
theorem ended_length (l : List UInt8) (n : Nat) : (ended l n).length % 128 = 0 := by
  unfold ended
  have := marked_mod l
  simp only [List.length_append, be_length]
  omega
/-- The digest of bytes. -/
def out (t : St) : List UInt8 := be t.a 8 ++ be t.b 8 ++ be t.c 8 ++ be t.d 8
def sum (l : List UInt8) : List UInt8 := out (mixAll start (ended l l.length))
theorem sum_parts (l : List UInt8) (k : Nat) (hk : k % 128 = 0) (hl : k ≤ l.length) : mixAll (mixAll start (l.take k)) (ended (l.drop k) l.length) = mixAll start (ended l l.length) := by
  have e : ended l l.length = l.take k ++ ended (l.drop k) l.length := by
    rw [← ended_append _ _ _ (by rw [List.length_take_of_le hl]; exact hk), List.take_append_drop]
  rw [e, mixAll_append _ _ _ (by rw [List.length_take_of_le hl]; exact hk)]
end Go.Sha
/- The eight numbers told as bytes, one behind the other. -/
namespace Go.Sha
def St.nth (u : St) (k : Nat) : Int := [u.a, u.b, u.c, u.d, u.e, u.f, u.g, u.h].getD k 0
def outN (u : St) : Nat → List UInt8
  | 0 => []
  | k + 1 => outN u k ++ be (u.nth k) 8
theorem outN_length (u : St) (k : Nat) : (outN u k).length = 8 * k := by
  induction k with
  | zero => rfl
  | succ k ih => simp [outN, ih, be_length]; omega
theorem outN_out (u : St) : (outN u 8).take 32 = out u := by
  have e : outN u 8 = out u ++ (be u.e 8 ++ be u.f 8 ++ be u.g 8 ++ be u.h 8) := by simp [outN, out, St.nth]
  rw [e, List.take_append_of_le_length (by simp [out, be_length]), List.take_of_length_le (by simp [out, be_length])]
theorem out_length (u : St) : (out u).length = 32 := by simp [out, be_length]
theorem sum_length (l : List UInt8) : (sum l).length = 32 := out_length _
theorem sum_two (s : ByteArray) (k : Nat) (hk : k % 128 = 0) (hl : k ≤ s.size) : out (mixAll (mixAll start (s.data.toList.take k)) (ended (s.extract k s.size).data.toList s.size)) = sum s.data.toList := by
  have e : s.data.toList.length = s.size := by simp
  rw [extract_size, sum, ← sum_parts s.data.toList k hk (by omega), e]
theorem app_list (a b : ByteArray) : (a ++ b).data.toList = a.data.toList ++ b.data.toList := by simp
theorem app_size (a b : ByteArray) : (a ++ b).size = a.size + b.size := ByteArray.size_append
theorem ba_ext {a : ByteArray} {l : List UInt8} (h : a.data.toList = l) : a = ⟨l.toArray⟩ := by
  subst h; rfl
theorem be_head (x : Int) (m : Nat) : be x (m + 1) = [byteOf (x / 2 ^ (8 * m))] ++ be x m := rfl
theorem div_next (x : Int) (m : Nat) : x / 2 ^ (8 * m) / 256 = x / 2 ^ (8 * (m + 1)) := by
  rw [Int.ediv_ediv_of_nonneg (Int.pow_nonneg (by decide)), show 8 * (m + 1) = 8 * m + 8 by omega, Int.pow_add]
  rfl
theorem byteOf_mod (y : Int) : byteOf (y % 256) = byteOf y := by unfold byteOf; rw [Int.emod_emod_of_dvd _ (by decide)]
theorem mixN_succ (h : St) (l : List UInt8) (m : Nat) : mixN h l (m + 1) = mix (mixN h l m) ((l.drop (128 * m)).take 128) := by
  induction m generalizing h l with
  | zero => rfl
  | succ m ih =>
    show mixN (mix h (l.take 128)) (l.drop 128) (m + 1) = _
    rw [ih]
    show mix (mixN (mix h (l.take 128)) (l.drop 128) m) _ = mix (mixN (mix h (l.take 128)) (l.drop 128) m) _
    rw [List.drop_drop, show 128 + 128 * m = 128 * (m + 1) by omega]
theorem out_at (u : St) (i : Nat) (h : i < 32) : (out u)[i]? = some (byteOf (u.nth (i / 8) / 2 ^ (56 - i % 8 * 8))) := by
  have e : i = 0 ∨ i = 1 ∨ i = 2 ∨ i = 3 ∨ i = 4 ∨ i = 5 ∨ i = 6 ∨ i = 7 ∨ i = 8 ∨ i = 9 ∨ i = 10 ∨ i = 11 ∨ i = 12 ∨ i = 13 ∨ i = 14 ∨ i = 15 ∨ i = 16 ∨ i = 17 ∨ i = 18 ∨ i = 19 ∨ i = 20 ∨ i = 21 ∨ i = 22 ∨ i = 23 ∨ i = 24 ∨ i = 25 ∨ i = 26 ∨ i = 27 ∨ i = 28 ∨ i = 29 ∨ i = 30 ∨ i = 31 := by omega
  rcases e with rfl | rfl | rfl | rfl | rfl | rfl | rfl | rfl | rfl | rfl | rfl | rfl | rfl | rfl | rfl | rfl | rfl | rfl | rfl | rfl | rfl | rfl | rfl | rfl | rfl | rfl | rfl | rfl | rfl | rfl | rfl | rfl <;> rfl
theorem take_next {l : List UInt8} {i : Nat} {c : UInt8} (h : l[i]? = some c) : l.take (i + 1) = l.take i ++ [c] := by
  rw [List.take_add_one, h]; rfl
theorem cells_nth (u : St) (q : Nat) (h : q < 8) : u.cells[q]? = some (.int .u64 (u.nth q)) := by
  have e : q = 0 ∨ q = 1 ∨ q = 2 ∨ q = 3 ∨ q = 4 ∨ q = 5 ∨ q = 6 ∨ q = 7 := by omega
  rcases e with rfl | rfl | rfl | rfl | rfl | rfl | rfl | rfl <;> rfl
end Go.Sha
/- Lists of parts for a purpose told as bytes, and that unlike lists have unlike bytes: plain lists. -/
namespace Go.Sha
def lens (L : List (List UInt8)) : List UInt8 := (L.map fun s => be s.length 4).flatten
/-- The text whose digest is that of parts for a purpose. -/
def parts (p : UInt8) (L : List (List UInt8)) : List UInt8 := [p] ++ be L.length 4 ++ lens L ++ L.flatten
theorem lens_snoc (L : List (List UInt8)) (s : List UInt8) : lens (L ++ [s]) = lens L ++ be s.length 4 := by simp [lens]
theorem lens_length (L : List (List UInt8)) : (lens L).length = 4 * L.length := by
  induction L with
  | nil => rfl
  | cons s L ih =>
    have : lens (s :: L) = be s.length 4 ++ lens L := rfl
    rw [this, List.length_append, be_length, ih]; simp; omega
theorem byteOf_toNat (y : Int) : ((byteOf y).toNat : Int) = y % 256 := by rw [← wrap_u8]; simp [IntKind.wrap, IntKind.bits, IntKind.signed]
/-- Four bytes tell a small number. -/
theorem be4_inj {m n : Nat} (hm : m < 4294967296) (hn : n < 4294967296) (h : be m 4 = be n 4) : m = n := by
  simp only [be, List.cons.injEq, and_true] at h
  obtain ⟨h3, h2, h1, h0⟩ := h
  have g3 := congrArg (fun c : UInt8 => (c.toNat : Int)) h3
  have g2 := congrArg (fun c : UInt8 => (c.toNat : Int)) h2
  have g1 := congrArg (fun c : UInt8 => (c.toNat : Int)) h1
  have g0 := congrArg (fun c : UInt8 => (c.toNat : Int)) h0
  simp only [byteOf_toNat] at g3 g2 g1 g0
  have e3 : (2 : Int) ^ (8 * 3) = 16777216 := by decide
  have e2 : (2 : Int) ^ (8 * 2) = 65536 := by decide
  have e1 : (2 : Int) ^ (8 * 1) = 256 := by decide
  have e0 : (2 : Int) ^ (8 * 0) = 1 := by decide
  rw [e3] at g3; rw [e2] at g2; rw [e1] at g1; rw [e0] at g0
  omega
/-- Lists of the same lengths, put together the same, are the same. -/
theorem flatten_inj : ∀ (L M : List (List UInt8)), L.length = M.length → (∀ s ∈ L, s.length < 4294967296) → (∀ s ∈ M, s.length < 4294967296) → lens L = lens M → L.flatten = M.flatten → L = M
  | [], [], _, _, _, _, _ => rfl
  | [], _ :: _, h, _, _, _, _ => by simp at h
  | _ :: _, [], h, _, _, _, _ => by simp at h
  | s :: L, t :: M, h, hL, hM, h1, h2 => by
    have e1 : lens (s :: L) = be s.length 4 ++ lens L := rfl
    have e2 : lens (t :: M) = be t.length 4 ++ lens M := rfl
    rw [e1, e2] at h1
    obtain ⟨h3, h4⟩ := List.append_inj h1 (by rw [be_length, be_length])
    have h5 := be4_inj (hL s (by simp)) (hM t (by simp)) h3
    rw [List.flatten_cons, List.flatten_cons] at h2
    obtain ⟨h6, h7⟩ := List.append_inj h2 h5
    rw [h6, flatten_inj L M (by simpa using h) (fun x hx => hL x (by simp [hx])) (fun x hx => hM x (by simp [hx])) h4 h7]
theorem parts_inj {p q : UInt8} {L M : List (List UInt8)} (hl : L.length < 4294967296) (hm : M.length < 4294967296) (hL : ∀ s ∈ L, s.length < 4294967296) (hM : ∀ s ∈ M, s.length < 4294967296) (h : parts p L = parts q M) : p = q ∧ L = M := by
  unfold parts at h
  rw [List.append_assoc, List.append_assoc, List.append_assoc, List.append_assoc] at h
  obtain ⟨h1, h2⟩ := List.append_inj h rfl
  obtain ⟨h3, h4⟩ := List.append_inj h2 (by rw [be_length, be_length])
  have h5 := be4_inj hl hm h3
  obtain ⟨h6, h7⟩ := List.append_inj h4 (by rw [lens_length, lens_length, h5])
  exact ⟨by simpa using h1, flatten_inj L M h5 hL hM h6 h7⟩
end Go.Sha
/- A region that draws its order, whose first n operations only read or call functions that stay within a class of worlds, and whose last operations are forced to come behind them in their order: one walk of the text's order serves every order; what is told of a store in the last part is told in the world behind the first part. -/
namespace Go.QTail
variable {P : Program} {ops : Array Oper} {md : Region.Mode} {C : World → Prop}
/-- The first part in whatever order: only its operations come up, each is quiet; then L. -/
def Head (P : Program) (md : Region.Mode) (ops : Array Oper) (C : World → Prop) (n : Nat) (L : Array Bool → Act → Prop) : Nat → Array Bool → Act → Prop
  | 0, listed, a => L listed a
  | f + 1, listed, a => Region.ready md ops listed ≠ [] ∧ ∀ i ∈ Region.ready md ops listed, i < n ∧ qOp P ops C i (Head P md ops C n L f (listed.setIfInBounds i true)) a
theorem Head.any {n g : Nat} {L : Array Bool → Act → Prop} {Q : Exit → Act → World → Prop} (hL : ∀ listed a w, C w → L listed a → wpAny P md ops Q g listed a w) :
    ∀ (f : Nat) (listed : Array Bool) (a : Act) (w : World), C w → Head P md ops C n L f listed a → wpAny P md ops Q (f + g) listed a w := by
  intro f
  induction f with
  | zero => intro listed a w hw h; rw [Nat.zero_add]; exact hL _ _ _ hw h
  | succ f ih =>
    intro listed a w hw h
    have e : f + 1 + g = (f + g) + 1 := by omega
    rw [e]
    exact ⟨fun h0 => absurd h0 h.1, fun i hi => wpOp_of_qOp hw (fun a' w' hw' h' => ih _ a' w' hw' h') (h.2 i hi).2⟩
theorem Head.first {n i : Nat} {oi : Oper} {v : Value} {L : Array Bool → Act → Prop} (hi : ops[i]? = some oi) (hsel : ∀ (j : Nat) (o : Oper) cs b, ops[j]? = some o → o.op ≠ .select cs b)
    (hs : Region.sinkB md ops n = true) (hc : Region.chainB md ops n = true) (hn : n < ops.size) (hin : i < n) (hdone : ∀ listed a, L listed a → ∀ j ∈ Region.ready md ops listed, n ≤ j) :
    ∀ (f : Nat) (listed : Array Bool) (a : Act), HeadInv md ops n listed →
      (∀ j oj, ops[j]? = some oj → j ≠ i → listed.getD j true = false → (∀ e ∈ oj.after, Region.binds md e = true → e.on ≠ i) → oi.apart ops oj = true) →
      i ∈ Region.ready md ops listed → YieldsIn P ops C oi v a →
      Head P md ops C n L f (listed.setIfInBounds i true) (a.put oi.dst v) → Head P md ops C n L (f + 1) listed a := by
  intro f
  induction f with
  | zero =>
    intro listed a inv _ hr hy H
    refine ⟨fun h => (by rw [h] at hr; cases hr), fun j hj => ?_⟩
    have hjn : j < n := Nat.lt_of_not_le fun h => tail_waits hs hc hn inv _ i rfl hin (mem_ready.1 hr).1 j h hj
    refine ⟨hjn, ?_⟩
    by_cases hji : j = i
    · subst hji; exact hy.qOp hi H
    · have := hdone _ _ H j (ready_mono hj hji); omega
  | succ f ih =>
    intro listed a inv hfree hr hy H
    have hun := (mem_ready.1 hr).1
    refine ⟨fun h => (by rw [h] at hr; cases hr), fun j hj => ?_⟩
    have hjn : j < n := Nat.lt_of_not_le fun h => tail_waits hs hc hn inv _ i rfl hin hun j h hj
    refine ⟨hjn, ?_⟩
    by_cases hji : j = i
    · subst hji; exact hy.qOp hi H
    · obtain ⟨hjun, oj, hoj, hall⟩ := mem_ready.1 hj
      have hnot : ∀ e ∈ oj.after, Region.binds md e = true → e.on ≠ i := fun e he hb heq => by
        have h1 := hall e he hb
        rw [heq, getD_both hun] at h1
        cases h1
      have h2 := qOp_put hoj (hfree j oj hoj hji hjun hnot) (fun cs b => hsel i oi cs b hi) (fun cs b => hsel j oj cs b hoj) hy (H.2 j (ready_mono hj hji)).2
      refine qOp_mono (fun a' h3 => ih (listed.setIfInBounds j true) a' (inv.set hj hjn) (fun k ok hk hki hkun hno => hfree k ok hk hki ?_ hno) (ready_mono hr (Ne.symm hji)) h3.1 ?_) h2
      · by_cases hjk : j = k
        · subst hjk; exact hjun
        · rw [getD_set_ne true hjk] at hkun; exact hkun
      · rw [Array.setIfInBounds_comm _ _ hji]; exact h3.2
theorem Head.lex {n g : Nat} {Lq : Act → Prop} (hsel : Region.noSelect ops = true) (hs : Region.sinkB md ops n = true) (hc : Region.chainB md ops n = true) (hn : n < ops.size) :
    ∀ (l : List Oper) (k : Nat) (listed : Array Bool) (a : Act), (∀ j, j < l.length → l[j]? = ops[k + j]?) → k + l.length = n → HeadInv md ops n listed →
    Region.lexHead md ops g l.length k listed = true → wpQuiet P ops C Lq l a →
    Head P md ops C n (fun listed' a' => Region.seqB md ops g n listed' = true ∧ Lq a') l.length listed a := by
  intro l
  induction l with
  | nil =>
    intro k listed a _ hk _ hB h
    have hk' : k = n := by simpa using hk
    subst hk'
    exact ⟨by simpa [Region.lexHead] using hB, h⟩
  | cons o l ih =>
    intro k listed a hl hk inv hB h
    have h0 : ops[k]? = some o := by simpa using (hl 0 (by simp)).symm
    simp only [List.length_cons, Region.lexHead, Bool.and_eq_true] at hB
    obtain ⟨⟨hr, hf⟩, hB'⟩ := hB
    have hkn : k < n := by simp only [List.length_cons] at hk; omega
    have hr' : k ∈ Region.ready md ops listed := by simpa using hr
    have hq : qOp P ops C k (wpQuiet P ops C Lq l) a := by unfold qOp; simp only [h0]; exact h
    obtain ⟨v, hy, hK⟩ := yieldsIn_of_qOp h0 hq
    refine Head.first h0 (Region.noSelect_spec hsel) hs hc hn hkn (fun listed' a' hL => seqB_ready hL.1) l.length listed a inv (Region.free_spec h0 hf) hr' hy (ih (k + 1) _ _ (fun j hj => ?_) ?_ (inv.set hr' hkn) hB' hK)
    · have := hl (j + 1) (by simp; omega)
      simpa [Nat.add_assoc, Nat.add_comm 1 j] using this
    · simp only [List.length_cons] at hk; omega
/-- The region: its first n operations quiet in the class C, the rest in its order. -/
theorem wp_region_tail {id : Nat} {Q : Exit → Act → World → Prop} {a : Act} {w : World} {l : List Oper} (C : World → Prop) (n : Nat) (hm : P.follows .mixedOrders = true) (hB : Region.lexTailB .any l.toArray n = true)
    (hC : C { w with drawn := w.drawn + 1 })
    (h : wpQuiet P l.toArray C (fun a' => ∀ w', C w' → wpList P l.toArray Q (l.drop n) a' w') (l.take n) a) : (Code.region id l.toArray true).wp P Q a w := by
  simp only [Region.lexTailB, Bool.and_eq_true, decide_eq_true_eq] at hB
  obtain ⟨⟨⟨⟨hsel, hn⟩, hs⟩, hc⟩, hlex⟩ := hB
  have htl : (l.take n).length = n := by simp at hn ⊢; omega
  have hdl : (l.drop n).length = l.toArray.size - n := by simp
  have inv0 : HeadInv .any l.toArray n (Array.replicate l.toArray.size false) :=
    ⟨by simp, fun j oj _ hl => (by rw [getD_replicate_false] at hl; cases hl), fun t _ ht => getD_in (by simpa using ht) (getD_replicate_false _ _)⟩
  have H := Head.lex (md := .any) (g := l.toArray.size - n) hsel hs hc hn (l.take n) 0 _ a (fun j hj => by
    have hj' : j < n := by rw [htl] at hj; exact hj
    simp [hj']) (by simpa using htl) inv0 (by rw [htl]; exact hlex) h
  refine wp_region_any hm ?_
  have K := Head.any (Q := Q) (g := l.toArray.size - n) (fun listed a' w' hw' hL => by
    have := wpAny_of_seq (md := .any) (Q' := Q) (l.drop n) n listed a' w' (fun j => by simp [List.getElem?_drop]) (by rw [hdl]; exact hL.1) (hL.2 w' hw')
    rwa [hdl] at this) _ _ _ _ hC H
  rw [htl, show n + (l.toArray.size - n) = l.toArray.size by omega] at K
  exact K
end Go.QTail
/- A slice of bytes that a call has made, wherever it lies: what it holds, that it may be written up to its capacity; what append does to it; of no program. -/
namespace Go.ByteRow
open Go.RowKit Go.Sha
/-- The slice value v holds the bytes l; it is nil, or lies at the head of a block from 'base' on, all of whose cells up to the capacity are there and may be written. -/
def Has (base : Nat) (w : World) (v : Value) (l : List UInt8) : Prop :=
  (v = .slice none 0 0 ∧ l = []) ∨
  ∃ g cap, v = .slice (some ⟨g, 0, none⟩) l.length cap ∧ base ≤ g ∧ g < w.heap.size ∧ l.length ≤ cap ∧
    (∀ j c, l[j]? = some c → w.cell? ⟨g, j, none⟩ = some (byteV c)) ∧
    (∀ j, j < cap → (w.cell? ⟨g, j, none⟩).isSome = true ∧ w.frozen? ⟨g, j, none⟩ = false)
theorem Has.nil (base : Nat) (w : World) : Has base w (.slice none 0 0) [] := .inl ⟨rfl, rfl⟩
theorem Has.below {base B : Nat} {w w' : World} {v : Value} {l : List UInt8} (h : Has base w v l) (hb : Below B w w') (hB : w.heap.size ≤ B) : Has base w' v l := by
  rcases h with h | ⟨g, cap, h1, h2, h3, h4, h5, h6⟩
  · exact .inl h
  · refine .inr ⟨g, cap, h1, h2, Nat.lt_of_lt_of_le h3 hb.size, h4, fun j c hj => ?_, fun j hj => ?_⟩
    · rw [hb.cell (p := ⟨g, j, none⟩) (by show g < B; omega)]; exact h5 j c hj
    · rw [hb.cell (p := ⟨g, j, none⟩) (by show g < B; omega), hb.frozen (p := ⟨g, j, none⟩) (by show g < B; omega)]; exact h6 j hj
theorem Has.alloc {base : Nat} {w : World} {v : Value} {l : List UInt8} (h : Has base w v l) (o : Obj) : Has base (w.alloc o) v l :=
  h.below ((Below.refl _ _).alloc (Nat.le_refl _) o) (Nat.le_refl _)
theorem Has.drewN {base : Nat} {w : World} {v : Value} {l : List UInt8} (h : Has base w v l) (n : Nat) : Has base (w.drewN n) v l := h
theorem Has.mono {base base' : Nat} {w : World} {v : Value} {l : List UInt8} (h : Has base w v l) (hb : base' ≤ base) : Has base' w v l := by
  rcases h with h | ⟨g, cap, h1, h2, h3⟩
  · exact .inl h
  · exact .inr ⟨g, cap, h1, Nat.le_trans hb h2, h3⟩
theorem Has.of_own {base e : Nat} {w : World} {v : Value} {n : Nat} {l : List UInt8} (h : w.ownsRow base e 1 v n (l.map byteV)) : Has base w v l := by
  obtain ⟨h0, h1⟩ := h
  have hn : n = l.length := by simpa using h0.symm
  subst hn
  rcases h1 with ⟨h1, h2⟩ | ⟨g, cap, cur, h1, h2, h3, h4, _, h6, h7⟩
  · exact .inl ⟨h1, List.length_eq_zero_iff.1 h2⟩
  · have hlt : g < w.heap.size := by
      rcases Nat.lt_or_ge g w.heap.size with h | h
      · exact h
      · rw [Array.getElem?_eq_none h] at h3; cases h3
    refine .inr ⟨g, cap, h1, h2, hlt, h4, fun j c hj => ?_, fun j hj => ?_⟩
    · have hjl : j < l.length := (List.getElem?_eq_some_iff.1 hj).1
      rw [cell_of_row _ _ _ _ _ _ h3, ← Array.getElem?_toList]
      have : (cur.toList.take (l.length * 1))[j]? = some (byteV c) := by rw [h7, List.getElem?_map, hj]; rfl
      rwa [List.getElem?_take_of_lt (by omega)] at this
    · exact ⟨by rw [cell_of_row _ _ _ _ _ _ h3, Array.getElem?_eq_getElem (by omega)]; rfl, frozen_of_row _ _ _ _ _ h3⟩
theorem Has.length_of {base : Nat} {w : World} {v : Value} {l : List UInt8} (h : Has base w v l) : (∃ a c, v = .slice a l.length c) := by
  rcases h with ⟨h, rfl⟩ | ⟨g, cap, h1, _⟩
  · exact ⟨none, 0, h⟩
  · exact ⟨_, cap, h1⟩
theorem Has.form {base : Nat} {w : World} {v : Value} {l : List UInt8} (h : Has base w v l) (hl : l ≠ []) : ∃ g cap, v = .slice (some ⟨g, 0, none⟩) l.length cap ∧ l.length ≤ cap := by
  rcases h with ⟨_, h⟩ | ⟨g, cap, h1, _, _, h4, _⟩
  · exact absurd h hl
  · exact ⟨g, cap, h1, h4⟩
theorem below_setCells {B b : Nat} (hb : B ≤ b) : ∀ (vs : List Value) (o : Nat) (w w1 : World), Below B w w1 → Below B w (w1.setCells b o vs)
  | [], _, _, _, h => h
  | _ :: vs, o, w, _, h => below_setCells hb vs (o + 1) w _ (h.setCell hb _)
/-- append(b, x...) onto such a slice. -/
theorem append {P : Program} (w : World) {ops : Array Oper} {rest : List Oper} {o : Oper} {a : Act} {Q : Exit → Act → World → Prop}
    (hg : o.guard = none) (s x : Operand) (t : TypeId) (hop : o.op = Op.call { callee := Callee.builtin Builtin.append, args := #[s, x], argTypes := #[t, t] })
    (e : TypeId) (i : TypeInfo) (h1 : P.underlying t = some (.slice e)) (h2 : P.info? e = some i) (h3 : i.zero = some (.int .u8 0)) (h4 : i.size = 1) (h5 : i.bytes = 1)
    (base : Nat) (v : Value) (l : List UInt8) (hs : a.eval s = v) (hh : Has base w v l) (hb : base ≤ w.heap.size)
    (ad : Addr) (m c : Nat) (news : List UInt8) (hx : a.eval x = .slice (some ad) m c) (hm : news.length = m) (hc : ∀ j u, (news.map byteV)[j]? = some u → w.cell? (ad.add j) = some u)
    (hlen : l.length + news.length ≤ 1099511627776)
    (k : ∀ v' w', Has base w' v' (l ++ news) → Below base w w' → wpList P ops Q rest (a.put o.dst v') w') :
    wpList P ops Q (o :: rest) a w := by
  subst hm
  have hone : ∀ u ∈ news.map byteV, u.oneCell' = true := by
    intro u hu
    obtain ⟨q, _, rfl⟩ := List.mem_map.1 hu
    rfl
  rcases hh with ⟨hv, rfl⟩ | ⟨g, cap, hv, hgb, hgl, hcap, hcell, hroom⟩
  · refine wpList_append_own w hg s x t hop base e i (.int .u8 0) 1 1 h1 h2 h3 h4 h5 rfl (by decide) v 0 [] hs (by rw [hv]; exact World.ownsRow_nil _ _ _ _) ad news.length c (news.map byteV) hx (by simp) hc hone (by unfold maxLen; omega) (by omega) hb ?_
    intro v' w' hown hgrow _
    refine k v' w' (Has.of_own (by simpa using hown)) ((Below.refl _ _).grown hgrow hb (fun q hq => by rw [hv] at hq; cases hq))
  · refine wpList_append_arg w hg s x t hop e i (.int .u8 0) 1 1 h1 h2 h3 h4 h5 rfl (by decide) g 0 l.length cap (l.map byteV) (by rw [hs, hv]) (by simp) (fun j u hj => ?_) ad news.length c (news.map byteV) hx (by simp) hc hone (fun hr j hj => ?_) (by unfold maxLen; omega) (by omega) (fun hr => ?_) (fun hr v' w' hown hgrow => ?_)
    · rw [List.getElem?_map] at hj
      cases hq : l[j]? with
      | none => rw [hq] at hj; cases hj
      | some q =>
        rw [hq] at hj
        have : u = byteV q := (Option.some.inj hj).symm
        rw [this, Nat.zero_add]
        exact hcell j q hq
    · have hj' : j < news.length := by simpa using hj
      have := hroom (l.length + j) (by omega)
      simpa using this
    · have hin := World.cell?_setCells_in g (news.map byteV) (0 + l.length * 1) w (fun j hj => by
        have hj' : j < news.length := by simpa using hj
        have := (hroom (l.length + j) (by omega)).1
        simpa using this)
      have hsz : (w.setCells g (0 + l.length * 1) (news.map byteV)).heap.size ≥ w.heap.size := (below_setCells (B := 0) (Nat.zero_le _) (news.map byteV) _ w w (Below.refl _ _)).size
      refine k _ _ (.inr ⟨g, cap, by simp, hgb, Nat.lt_of_lt_of_le hgl hsz, by simp; omega, fun j q hj => ?_, fun j hj => ?_⟩) (below_setCells hgb _ _ _ _ (Below.refl _ _))
      · by_cases hjl : j < l.length
        · rw [World.cell?_setCells_out _ _ _ _ _ (fun _ _ => .inl (by show j < 0 + l.length * 1; omega))]
          exact hcell j q (by rwa [List.getElem?_append_left hjl] at hj)
        · rw [List.getElem?_append_right (by omega)] at hj
          have hjn : j - l.length < news.length := (List.getElem?_eq_some_iff.1 hj).1
          have h9 := hin (j - l.length) (by simpa using hjn)
          rw [show 0 + l.length * 1 + (j - l.length) = j by omega] at h9
          rw [h9]
          rw [List.getElem?_eq_getElem hjn] at hj
          simp [Option.some.inj hj]
      · refine ⟨World.isSome_setCells _ _ _ _ _ (hroom j hj).1, ?_⟩
        rw [World.frozen?_setCells]; exact (hroom j hj).2
    · refine k v' w' ((Has.of_own (by simpa using hown)).mono hb) ((Below.refl _ _).grown hgrow hb (fun q hq => by cases hq))
/-- []byte(s). -/
theorem of_string {P : Program} (w : World) {ops : Array Oper} {rest : List Oper} {o : Oper} {a : Act} {Q : Exit → Act → World → Prop}
    (hg : o.guard = none) (src dst e : TypeId) (x : Operand) (hop : o.op = .convert src dst x) (s : ByteArray) (hx : a.eval x = .string s)
    (hs : P.underlying src = some .string) (hd : P.underlying dst = some (.slice e)) (he : P.underlying e = some (.int .u8))
    (k : ∀ v' w', Has w.heap.size w' v' s.data.toList → Below w.heap.size w w' → wpList P ops Q rest (a.put o.dst v') w') : wpList P ops Q (o :: rest) a w := by
  have hh0 : ∀ ob, (w.drew.alloc ob).heap[w.heap.size]? = some ob := fun ob => heap_alloc_new w.drew ob
  refine wpList_plain hg fun K hK => ?_
  unfold Oper.wp execOp
  simp only [hop, hx, Sem.run_bind, run_bytes_of_string w src dst e s hs hd he, Result.andThen_ok]
  refine hK _ _ (k _ _ (.inr ⟨w.heap.size, grownCap w s.size 0 e, by simp, Nat.le_refl _, by simp, ?_, fun j c hj => ?_, fun j hj => ?_⟩) ?_)
  · simpa using grownCap_ge w s.size 0 e
  · have hjl : j < s.size := by have := (List.getElem?_eq_some_iff.1 hj).1; simpa using this
    rw [cell_of_row _ _ _ _ _ _ (hh0 _)]
    rw [bytesRow, Array.getElem?_append_left (by simpa using hjl), Array.getElem?_map, ← Array.getElem?_toList, hj]
    rfl
  · have hge := grownCap_ge w s.size 0 e
    refine ⟨?_, ?_⟩
    · rw [cell_of_row _ _ _ _ _ _ (hh0 _), Array.getElem?_eq_getElem (by simp [bytesRow]; have : s.data.size = s.size := rfl; omega)]
      rfl
    · have hz : (bytesRow s (grownCap w s.size 0 e)).size = grownCap w s.size 0 e := by simp [bytesRow]; have : s.data.size = s.size := rfl; omega
      rw [hz]
      have hh : (w.drew.alloc (.cells (bytesRow s (grownCap w s.size 0 e)) e (grownCap w s.size 0 e, grownCap w s.size 0 e + 1))).heap[w.heap.size]? = some (.cells (bytesRow s (grownCap w s.size 0 e)) e (grownCap w s.size 0 e, grownCap w s.size 0 e + 1)) := heap_alloc_new w.drew _
      simp only [World.frozen?, hh]
      simp
      omega
  · exact ((Below.refl _ _).drew).alloc (Nat.le_refl _) _
/-- string(b). -/
theorem to_string {P : Program} (w : World) {ops : Array Oper} {rest : List Oper} {o : Oper} {a : Act} {Q : Exit → Act → World → Prop}
    (hg : o.guard = none) (src dst e : TypeId) (x : Operand) (hop : o.op = .convert src dst x) {base : Nat} {v : Value} (l : List UInt8) (hx : a.eval x = v) (hh : Has base w v l) (hl : l ≠ [])
    (hs : P.underlying src = some (.slice e)) (he : P.underlying e = some (.int .u8)) (hd : P.underlying dst = some .string)
    (k : wpList P ops Q rest (a.put o.dst (.string ⟨l.toArray⟩)) w) : wpList P ops Q (o :: rest) a w := by
  rcases hh with ⟨_, h⟩ | ⟨g, cap, hv, _, _, _, hcell, _⟩
  · exact absurd h hl
  · have hadd : ∀ j, (⟨g, 0, none⟩ : Addr).add j = ⟨g, j, none⟩ := fun j => by unfold Addr.add; split <;> simp_all
    have hr := run_convert_bytes_back (P := P) w src dst e ⟨g, 0, none⟩ cap l hs he hd (fun j hj => by rw [hadd]; exact hcell j _ (List.getElem?_eq_getElem hj))
    refine wpList_plain hg fun K hK => ?_
    unfold Oper.wp execOp
    simp only [hop, hx, hv, Sem.run_bind, hr, Result.andThen_ok]
    exact hK _ _ k
/-- b[:n]. -/
theorem Has.front {base : Nat} {w : World} {g n cap : Nat} {l : List UInt8} (h : Has base w (.slice (some ⟨g, 0, none⟩) l.length cap) l) (hn : n ≤ l.length) : Has base w (.slice (some ⟨g, 0, none⟩) n cap) (l.take n) := by
  rcases h with ⟨h, _⟩ | ⟨g', cap', h1, h2, h3, h4, h5, h6⟩
  · cases h
  · simp only [Value.slice.injEq, Option.some.injEq, Addr.mk.injEq] at h1
    obtain ⟨⟨rfl, -, -⟩, -, rfl⟩ := h1
    refine .inr ⟨g, cap, by rw [List.length_take_of_le hn], h2, h3, by rw [List.length_take_of_le hn]; omega, fun j c hj => h5 j c ?_, h6⟩
    by_cases hjn : j < n
    · rwa [List.getElem?_take_of_lt hjn] at hj
    · rw [List.getElem?_eq_none (by rw [List.length_take_of_le hn]; omega)] at hj; cases hj
/-- []byte{c}, as it is laid. -/
theorem Has.one {base : Nat} {w : World} (hb : base ≤ w.heap.size) (c : UInt8) (u : Value) (hu : u = byteV c) (e : TypeId) : Has base (w.alloc (.cells #[u] e)) (.slice (some ⟨w.heap.size, 0, none⟩) 1 1) [c] := by
  subst hu
  have hh := heap_alloc_new w (.cells #[byteV c] e (0, 0))
  refine .inr ⟨w.heap.size, 1, rfl, hb, by simp, Nat.le_refl _, fun j d hj => ?_, fun j hj => ?_⟩
  · match j, hj with
    | 0, hj => simp at hj; subst hj; rw [cell_of_row _ _ _ _ _ _ hh]; rfl
  · match j, hj with
    | 0, _ => exact ⟨by rw [cell_of_row _ _ _ _ _ _ hh]; rfl, frozen_of_row _ _ _ _ _ hh⟩
end Go.ByteRow
/- A slice of strings that is read: what it holds; a row of bytes written out; of no program. -/
namespace Go.ByteRow
open Go.RowKit Go.Sha
/-- A row of bytes, as it is laid. -/
theorem Has.lit {base : Nat} {w : World} (hb : base ≤ w.heap.size) (cs : Array Value) (l : List UInt8) (n : Nat) (hn : n = l.length) (hcs : cs = (l.map byteV).toArray) (e : TypeId) : Has base (w.alloc (.cells cs e)) (.slice (some ⟨w.heap.size, 0, none⟩) n n) l := by
  subst hn hcs
  have hh := heap_alloc_new w (.cells (l.map byteV).toArray e (0, 0))
  refine .inr ⟨w.heap.size, l.length, rfl, hb, by simp, Nat.le_refl _, fun j c hj => ?_, fun j hj => ?_⟩
  · rw [cell_of_row _ _ _ _ _ _ hh, List.getElem?_toArray, List.getElem?_map, hj]; rfl
  · exact ⟨by rw [cell_of_row _ _ _ _ _ _ hh, List.getElem?_toArray, List.getElem?_map, List.getElem?_eq_getElem hj]; rfl, frozen_of_row _ _ _ _ _ hh⟩
end Go.ByteRow
namespace Go.StrRow
open Go.RowKit
/-- The slice value v holds the strings xs, in a block that is there. -/
def Reads (w : World) (v : Value) (xs : List ByteArray) : Prop :=
  ((∃ a cap, v = .slice a 0 cap) ∧ xs = []) ∨
  ∃ b off cap, v = .slice (some ⟨b, off, none⟩) xs.length cap ∧ b < w.heap.size ∧ xs.length ≤ cap ∧ ∀ j s, xs[j]? = some s → w.cell? ⟨b, off + j, none⟩ = some (.string s)
theorem Reads.below {w w' : World} {v : Value} {xs : List ByteArray} (h : Reads w v xs) {B : Nat} (hb : Below B w w') (hB : w.heap.size ≤ B) : Reads w' v xs := by
  rcases h with h | ⟨b, off, cap, h1, h2, h3, h4⟩
  · exact .inl h
  · exact .inr ⟨b, off, cap, h1, Nat.lt_of_lt_of_le h2 hb.size, h3, fun j s hj => by rw [hb.cell (p := ⟨b, off + j, none⟩) (by show b < B; omega)]; exact h4 j s hj⟩
theorem Reads.form {w : World} {v : Value} {xs : List ByteArray} (h : Reads w v xs) : ∃ a c, v = .slice a xs.length c := by
  rcases h with ⟨⟨a, cap, h⟩, rfl⟩ | ⟨b, off, cap, h1, _⟩
  · exact ⟨a, cap, h⟩
  · exact ⟨_, cap, h1⟩
theorem Reads.at {w : World} {v : Value} {xs : List ByteArray} (h : Reads w v xs) (hx : xs ≠ []) : ∃ b off cap, v = .slice (some ⟨b, off, none⟩) xs.length cap ∧ xs.length ≤ cap ∧ b < w.heap.size := by
  rcases h with ⟨_, rfl⟩ | ⟨b, off, cap, h1, h2, h3, _⟩
  · exact absurd rfl hx
  · exact ⟨b, off, cap, h1, h3, h2⟩
theorem Reads.cell {w : World} {b off cap n : Nat} {xs : List ByteArray} (h : Reads w (.slice (some ⟨b, off, none⟩) n cap) xs) {j : Nat} {s : ByteArray} (hj : xs[j]? = some s) : w.cell? ⟨b, off + j, none⟩ = some (.string s) := by
  rcases h with ⟨_, rfl⟩ | ⟨b', off', cap', h1, _, _, h4⟩
  · cases hj
  · simp only [Value.slice.injEq, Option.some.injEq, Addr.mk.injEq] at h1
    obtain ⟨⟨rfl, rfl, -⟩, -, rfl⟩ := h1
    exact h4 j s hj
theorem Reads.of_own {base e : Nat} {w : World} {v : Value} {n : Nat} {xs : List ByteArray} (h : w.ownsRow base e 1 v n (xs.map Value.string)) : Reads w v xs := by
  obtain ⟨h0, h1⟩ := h
  have hn : n = xs.length := by simpa using h0.symm
  subst hn
  rcases h1 with ⟨h1, h2⟩ | ⟨g, cap, cur, h1, h2, h3, h4, _, h6, h7⟩
  · exact .inl ⟨⟨none, 0, h1⟩, List.length_eq_zero_iff.1 h2⟩
  · have hlt : g < w.heap.size := by
      rcases Nat.lt_or_ge g w.heap.size with h | h
      · exact h
      · rw [Array.getElem?_eq_none h] at h3; cases h3
    refine .inr ⟨g, 0, cap, h1, hlt, h4, fun j s hj => ?_⟩
    have hjl : j < xs.length := (List.getElem?_eq_some_iff.1 hj).1
    rw [Nat.zero_add, cell_of_row _ _ _ _ _ _ h3, ← Array.getElem?_toList]
    have : (cur.toList.take (xs.length * 1))[j]? = some (.string s) := by rw [h7, List.getElem?_map, hj]; rfl
    rwa [List.getElem?_take_of_lt (by omega)] at this
end Go.StrRow
/- Tags under keys, as plain lists of bytes; two bytes turned against each other as the walk has it; no program text is named here. -/
namespace Go.Sha
/-- A key, or the digest of one that is too long. -/
def longKey (k : List UInt8) : List UInt8 := if 128 < k.length then sum k else k
/-- A key as long as a block. -/
def filled (k : List UInt8) : List UInt8 := longKey k ++ List.replicate (128 - (longKey k).length) 0
def turned (t : UInt8) (b : List UInt8) : List UInt8 := b.map fun c => c ^^^ t
/-- The tag of a text under a key. -/
def tag (k s : List UInt8) : List UInt8 := sum (turned 92 (filled k) ++ sum (turned 54 (filled k) ++ s))
/-- The key of a number of a seed. -/
def ringKey (seed : List UInt8) (i : Nat) : List UInt8 := sum (parts 82 [seed, [UInt8.ofNat i]])
theorem longKey_length (k : List UInt8) : (longKey k).length ≤ 128 := by
  unfold longKey
  split
  · rw [sum_length]; decide
  · omega
theorem filled_length (k : List UInt8) : (filled k).length = 128 := by
  have h := longKey_length k
  simp [filled]
  omega
theorem turned_length (t : UInt8) (b : List UInt8) : (turned t b).length = b.length := by simp [turned]
theorem tag_length (k s : List UInt8) : (tag k s).length = 32 := sum_length _
theorem ringKey_length (k : List UInt8) (i : Nat) : (ringKey k i).length = 32 := sum_length _
theorem xor_byte (a b : UInt8) : bits .xor .u8 (a.toNat : Int) (b.toNat : Int) = ((a ^^^ b).toNat : Int) := by
  rw [u8_xor_nat _ _ a.toNat_lt b.toNat_lt, UInt8.toNat_xor]
theorem or_bytes (a b : UInt8) : bits .or .u8 (a.toNat : Int) (b.toNat : Int) = ((a ||| b).toNat : Int) := by
  rw [u8_or_nat _ _ a.toNat_lt b.toNat_lt, UInt8.toNat_or]
theorem or_zero (a b : UInt8) : a ||| b = 0 ↔ a = 0 ∧ b = 0 := by
  rw [← UInt8.toBitVec_inj, ← UInt8.toBitVec_inj, ← UInt8.toBitVec_inj, UInt8.toBitVec_or]
  exact BitVec.or_eq_zero_iff
theorem xor_zero (a b : UInt8) : a ^^^ b = 0 ↔ a = b := UInt8.xor_eq_zero_iff
/-- One byte further: no byte was unlike. -/
theorem unlike_next {a b : List UInt8} {i : Nat} {x y u : UInt8} (ha : a[i]? = some x) (hb : b[i]? = some y) (h : u = 0 ↔ a.take i = b.take i) : u ||| (x ^^^ y) = 0 ↔ a.take (i + 1) = b.take (i + 1) := by
  have hla := (List.getElem?_eq_some_iff.1 ha).1
  have hlb := (List.getElem?_eq_some_iff.1 hb).1
  rw [or_zero, xor_zero, h, take_next ha, take_next hb]
  constructor
  · rintro ⟨h1, rfl⟩; rw [h1]
  · intro h1
    obtain ⟨h2, h3⟩ := List.append_inj h1 (by rw [List.length_take_of_le (by omega), List.length_take_of_le (by omega)])
    exact ⟨h2, by simpa using h3⟩
theorem ba_list {a b : ByteArray} : a.data.toList = b.data.toList ↔ a = b := by
  constructor
  · intro h; cases a; cases b; simp at h; rw [h]
  · intro h; rw [h]
end Go.Sha
