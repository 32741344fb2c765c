package sha_test

import (
	"arbour/api"
	"arbour/sha"
	"bytes"
	"crypto/sha512"
	"encoding"
	"encoding/binary"
	"encoding/hex"
	"strings"
	"testing"
)

// text is so many bytes, of all values, that do not repeat block by block.
func text(n int) string {
	b := make([]byte, n)
	for i := range b {
		b[i] = byte(i*7 + i/128*13 + i/251)
	}
	return string(b)
}

// wanted is the digest as the language's own library has it.
func wanted(s string) string {
	d := sha512.Sum512([]byte(s))
	return string(d[:api.HashBytes])
}

// mixed is the numbers behind whole blocks as the language's own library has them.
func mixed(t *testing.T, h sha.State, s string) sha.State {
	t.Helper()
	d := sha512.New()
	kept, err := d.(encoding.BinaryMarshaler).MarshalBinary()
	if err != nil {
		t.Fatal(err)
	}
	for i, n := range h {
		binary.BigEndian.PutUint64(kept[4+8*i:], n)
	}
	if err := d.(encoding.BinaryUnmarshaler).UnmarshalBinary(kept); err != nil {
		t.Fatal(err)
	}
	d.Write([]byte(s))
	kept, err = d.(encoding.BinaryMarshaler).MarshalBinary()
	if err != nil {
		t.Fatal(err)
	}
	for i := range h {
		h[i] = binary.BigEndian.Uint64(kept[4+8*i:])
	}
	return h
}

// others is numbers that are not those of Start.
func others() []sha.State {
	ones := ^uint64(0)
	return []sha.State{
		{},
		{1, 2, 3, 4, 5, 6, 7, 8},
		{ones, ones, ones, ones, ones, ones, ones, ones},
		sha.Mix(sha.Start(), text(128)),
	}
}

// 1.1: the numbers that SHA-512 starts with (FIPS 180-4, 5.3.5).
func TestStart(t *testing.T) {
	want := sha.State{
		0x6a09e667f3bcc908, 0xbb67ae8584caa73b, 0x3c6ef372fe94f82b, 0xa54ff53a5f1d36f1,
		0x510e527fade682d1, 0x9b05688c2b3e6c1f, 0x1f83d9abfb41bd6b, 0x5be0cd19137e2179,
	}
	if got := sha.Start(); got != want {
		t.Errorf("Start: %x, want %x", got, want)
	}
}

// 1.1: a block of which the numbers are known (abc filled up by hand).
func TestMixKnown(t *testing.T) {
	block := "abc\x80" + strings.Repeat("\x00", 123) + "\x18"
	want := sha.State{
		0xddaf35a193617aba, 0xcc417349ae204131, 0x12e6fa4e89a97ea2, 0x0a9eeee64b55d39a,
		0x2192992a274fc1a8, 0x36ba3c23a3feebbd, 0x454d4423643ce80e, 0x2a9ac94fa54ca49f,
	}
	if got := sha.Mix(sha.Start(), block); got != want {
		t.Errorf("Mix: %x, want %x", got, want)
	}
}

// 1.1: blocks of 128 bytes, from Start and from other numbers.
func TestMixBlocks(t *testing.T) {
	blocks := []string{
		text(128),
		text(256)[128:],
		strings.Repeat("\x00", 128),
		strings.Repeat("\xff", 128),
		strings.Repeat("\x00", 127) + "\x01",
		"\x80" + strings.Repeat("\x00", 127),
	}
	for i, h := range append(others(), sha.Start()) {
		for j, s := range blocks {
			before := h
			if got, want := sha.Mix(h, s), mixed(t, h, s); got != want {
				t.Errorf("numbers %d, block %d: %x, want %x", i, j, got, want)
			}
			if h != before {
				t.Errorf("numbers %d, block %d: what was handed in is changed", i, j)
			}
		}
	}
}

// 1.1: a block of another length leaves the numbers as they are.
func TestMixOtherLengths(t *testing.T) {
	for _, n := range []int{0, 1, 8, 16, 32, 64, 111, 112, 120, 126, 127, 129, 130, 136, 192, 255, 256, 257, 384, 1024} {
		for i, h := range append(others(), sha.Start()) {
			if got := sha.Mix(h, text(n)); got != h {
				t.Errorf("%d bytes, numbers %d: %x, want %x", n, i, got, h)
			}
		}
	}
}

// 1.1: digests that are known; the first 64 letters of those that FIPS 180-4's examples tell.
func TestSumKnown(t *testing.T) {
	for _, x := range []struct{ s, want string }{
		{"", "cf83e1357eefb8bdf1542850d66d8007d620e4050b5715dc83f4a921d36ce9ce"},
		{"abc", "ddaf35a193617abacc417349ae20413112e6fa4e89a97ea20a9eeee64b55d39a"},
		{"abcdefghbcdefghicdefghijdefghijkefghijklfghijklmghijklmnhijklmnoijklmnopjklmnopqklmnopqrlmnopqrsmnopqrstnopqrstu",
			"8e959b75dae313da8cf4f72814fc143f8f7779c6eb9f7fa17299aeadb6889018"},
		{strings.Repeat("a", 1000000), "e718483d0ce769644e2e42c7bc15b4638e1f98b13b2044285632a803afa973eb"},
	} {
		if got := hex.EncodeToString([]byte(sha.Sum(x.s))); got != x.want {
			t.Errorf("Sum of %d bytes: %s, want %s", len(x.s), got, x.want)
		}
	}
}

// 1.1: the chapter's example.
func TestSumExample(t *testing.T) {
	if got := sha.Sum("abc"); !strings.HasPrefix(got, "\xdd\xaf\x35\xa1") {
		t.Errorf("Sum of abc: %x", got)
	}
}

// 1.1: all lengths around the edges of some blocks, and longer ones.
func TestSumLengths(t *testing.T) {
	lengths := []int{1023, 1024, 1025, 8191, 8192, 8193, 65535, 65536, 1 << 20}
	for n := range 520 {
		lengths = append(lengths, n)
	}
	for _, n := range lengths {
		for _, s := range []string{text(n), strings.Repeat("\x00", n), strings.Repeat("\xff", n), strings.Repeat("\x80", n)} {
			got := sha.Sum(s)
			if len(got) != api.HashBytes {
				t.Fatalf("Sum of %d bytes has %d bytes", n, len(got))
			}
			if got != wanted(s) {
				t.Errorf("Sum of %d bytes: %x, want %x", n, got, wanted(s))
			}
		}
	}
}

// 1.1: the count of bits has more than 4 bytes.
func TestSumManyBits(t *testing.T) {
	if testing.Short() {
		t.Skip("half a gigabyte")
	}
	piece := text(1 << 20)
	s := strings.Repeat(piece, 1<<9+1)
	d := sha512.New()
	for range 1<<9 + 1 {
		d.Write([]byte(piece))
	}
	if got, want := sha.Sum(s), string(d.Sum(nil)[:api.HashBytes]); got != want {
		t.Errorf("Sum of %d bytes: %x, want %x", len(s), got, want)
	}
}

// laid is a purpose and parts as the chapter tells their bytes.
func laid(purpose byte, l []string) string {
	var b bytes.Buffer
	b.WriteByte(purpose)
	binary.Write(&b, binary.BigEndian, uint32(len(l)))
	for _, s := range l {
		binary.Write(&b, binary.BigEndian, uint32(len(s)))
	}
	for _, s := range l {
		b.WriteString(s)
	}
	return b.String()
}

// 1.1: bytes that are written out here.
func TestTaggedWritten(t *testing.T) {
	for _, x := range []struct {
		purpose byte
		parts   []string
		bytes   string
	}{
		{'E', nil, "E\x00\x00\x00\x00"},
		{'E', []string{}, "E\x00\x00\x00\x00"},
		{'K', []string{""}, "K\x00\x00\x00\x01\x00\x00\x00\x00"},
		{'K', []string{"abc"}, "K\x00\x00\x00\x01\x00\x00\x00\x03abc"},
		{0, []string{"ab", "", "c"}, "\x00\x00\x00\x00\x03\x00\x00\x00\x02\x00\x00\x00\x00\x00\x00\x00\x01abc"},
		{255, []string{"", ""}, "\xff\x00\x00\x00\x02\x00\x00\x00\x00\x00\x00\x00\x00"},
	} {
		got := sha.Tagged(x.purpose, x.parts...)
		if want := wanted(x.bytes); got != want {
			t.Errorf("Tagged(%d, %q): %x, want %x", x.purpose, x.parts, got, want)
		}
		if len(got) != api.HashBytes {
			t.Errorf("Tagged(%d, %q) has %d bytes", x.purpose, x.parts, len(got))
		}
	}
}

// 1.1: many parts, and parts whose counts and lengths take more than one byte.
func TestTaggedMany(t *testing.T) {
	var each []string
	for n := range 300 {
		each = append(each, text(n))
	}
	for _, l := range [][]string{
		each[:1], each[:2], each[:128], each[:255], each[:256], each[:257], each,
		make([]string, 70000),
		{text(255), text(256), text(65535), text(65536)},
		{text(1 << 24), "x"},
		{"", text(128), ""},
	} {
		if got, want := sha.Tagged('x', l...), wanted(laid('x', l)); got != want {
			t.Errorf("Tagged of %d parts: %x, want %x", len(l), got, want)
		}
	}
}

// 1.1: each purpose has digests of its own.
func TestTaggedPurposes(t *testing.T) {
	for _, l := range [][]string{nil, {""}, {"a"}, {"a", "b"}} {
		seen := map[string]int{}
		for p := range 256 {
			d := sha.Tagged(byte(p), l...)
			if d != wanted(laid(byte(p), l)) {
				t.Errorf("Tagged(%d, %q): %x", p, l, d)
			}
			if q, ok := seen[d]; ok {
				t.Errorf("purposes %d and %d of %q have one digest", p, q, l)
			}
			seen[d] = p
		}
	}
}

// R2: parts that are handed in are as they were, and may be changed later.
func TestTaggedKeepsParts(t *testing.T) {
	l := []string{"ab", "", "c"}
	d := sha.Tagged('x', l...)
	if l[0] != "ab" || l[1] != "" || l[2] != "c" {
		t.Errorf("parts are changed: %q", l)
	}
	l[0] = "other"
	if d != wanted(laid('x', []string{"ab", "", "c"})) {
		t.Errorf("the digest changed with the parts: %x", d)
	}
}

// 1.1: no collision: two same texts, two texts of unlike digests.
func TestCollide(t *testing.T) {
	for _, x := range []api.Witness{
		{},
		{A: "a", B: "a"},
		{A: text(300), B: text(300)},
		{A: "a", B: "b"},
		{A: "", B: "a"},
		{A: "a", B: ""},
		{A: "", B: "\x00"},
		{A: "a", B: "a\x00"},
		{A: "abc", B: "abc\x80" + strings.Repeat("\x00", 123) + "\x18"},
		{A: text(128), B: text(129)},
	} {
		if sha.Collide(x) {
			t.Errorf("Collide(%q) is true", x)
		}
	}
}

// splits is all ways to part a text into at most so many parts, empty ones among them.
func splits(s string, most int) [][]string {
	if most == 1 {
		return [][]string{{s}}
	}
	out := [][]string{{s}}
	for i := range len(s) + 1 {
		for _, l := range splits(s[i:], most-1) {
			out = append(out, append([]string{s[:i]}, l...))
		}
	}
	return out
}

// 1.2: lists that are put together the same, but parted otherwise.
func TestPartedOtherwise(t *testing.T) {
	for _, s := range []string{"", "a", "abc", "aaaa", "\x00\x00\x00\x01a", strings.Repeat("\x00", 9)} {
		seen := map[string][]string{sha.Tagged('x'): nil}
		lists := splits(s, 4)
		for _, l := range lists {
			d := sha.Tagged('x', l...)
			if other, ok := seen[d]; ok {
				t.Errorf("%q and %q have one digest", l, other)
			}
			seen[d] = l
		}
		if len(seen) != len(lists)+1 {
			t.Errorf("%q: %d lists, %d digests", s, len(lists)+1, len(seen))
		}
	}
}

// 1.2: parts that look like counts and lengths of others.
func TestPartsLikeHeads(t *testing.T) {
	lists := [][]string{
		nil,
		{""},
		{"\x00\x00\x00\x00"},
		{"", "\x00\x00\x00\x00"},
		{"\x00\x00\x00\x00", ""},
		{"\x00\x00\x00\x01a"},
		{"", "\x00\x00\x00\x01a"},
		{"\x00\x00\x00\x01", "a"},
		{"x\x00\x00\x00\x00"},
		{"x\x00\x00\x00\x01\x00\x00\x00\x00"},
		{"a", "b"},
		{"b", "a"},
		{"ab"},
	}
	seen := map[string]int{}
	for i, l := range lists {
		d := sha.Tagged('x', l...)
		if j, ok := seen[d]; ok {
			t.Errorf("%q and %q have one digest", l, lists[j])
		}
		seen[d] = i
	}
}

// R4: the same calls answer the same.
func TestSameAgain(t *testing.T) {
	s := text(300)
	first, tagged := sha.Sum(s), sha.Tagged('x', s, "y")
	sha.Sum("other")
	if sha.Sum(s) != first || sha.Tagged('x', s, "y") != tagged {
		t.Error("other answers the second time")
	}
}

func BenchmarkSum(b *testing.B) {
	s := text(8192)
	b.SetBytes(int64(len(s)))
	for b.Loop() {
		sha.Sum(s)
	}
}
