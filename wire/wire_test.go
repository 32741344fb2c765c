package wire_test

import (
	"arbour/api"
	"arbour/wire"
	"fmt"
	"hash/fnv"
	"math"
	"strings"
	"testing"
)

// text is so many bytes, of all values.
func text(n int) string {
	b := make([]byte, n)
	for i := range b {
		b[i] = byte(i*7 + i/251)
	}
	return string(b)
}

// drawer draws numbers below others, the same ones each time.
func drawer(seed uint32) func(n int) int {
	return func(n int) int {
		seed = seed*1664525 + 1013904223
		return int(seed>>8) % n
	}
}

// texts is texts of no bytes, of few and of many.
func texts() []string {
	all := []string{"", "a", "0", "y", "\x00", "\xff", "abc", "00000000", "0000000100000000", "\u00e4\u20ac", text(255), text(256), text(70000)}
	return append(all, wire.Frame("a"), wire.Frame(""))
}

// wantedCheck is the check as the language's own library has it.
func wantedCheck(s string) uint32 {
	h := fnv.New32a()
	h.Write([]byte(s))
	return h.Sum32()
}

// wantedFrame is a frame by the words of the document alone.
func wantedFrame(s string) string {
	count := fmt.Sprintf("%08x", len(s))
	return count + fmt.Sprintf("%08x", wantedCheck(count+s)) + s
}

// unframed wants a text and a place of Unframe.
func unframed(t *testing.T, s string, at int, want string, behind int) {
	t.Helper()
	got, place, e := wire.Unframe(s, at)
	if got != want || place != behind || e != api.OK {
		t.Fatalf("Unframe(%.60q, %d): %.60q, %d, %d; not %.60q, %d", s, at, got, place, int(e), want, behind)
	}
}

// refused wants an error of Unframe, and nothing beside it.
func refused(t *testing.T, s string, at int, want api.Errno) {
	t.Helper()
	got, place, e := wire.Unframe(s, at)
	if got != "" || place != 0 || e != want {
		t.Fatalf("Unframe(%.60q, %d): %.60q, %d, %d; not the error %d", s, at, got, place, int(e), int(want))
	}
}

// 3.1: checks that are known.
func TestFnvKnown(t *testing.T) {
	var each [256]byte
	for i := range each {
		each[i] = byte(i)
	}
	for s, want := range map[string]uint32{
		string(each[:]):      0x90a458c5,
		"":                   0x811c9dc5,
		"\x00":               0x050c5d1f,
		"a":                  0xe40c292c,
		"b":                  0xe70c2de5,
		"fo":                 0x6222e842,
		"foobar":             0xbf9cf968,
		"\xff\x00\x00\x01":   0xc48fb86d,
		"chongo was here!\n": 0xd49930d5,
	} {
		if got := wire.Fnv(s); got != want {
			t.Errorf("Fnv(%q): %08x, not %08x", s, got, want)
		}
	}
}

// 3.1: the check of each byte alone, of all of them, and of many.
func TestFnv(t *testing.T) {
	all := texts()
	for c := range 256 {
		all = append(all, string([]byte{byte(c)}), string([]byte{'x', byte(c), 'y'}))
	}
	for n := range 300 {
		all = append(all, text(n))
	}
	for _, s := range all {
		if got, want := wire.Fnv(s), wantedCheck(s); got != want {
			t.Errorf("Fnv(%.60q): %08x, not %08x", s, got, want)
		}
	}
}

// 3.1: numbers that are written out here.
func TestNumberKnown(t *testing.T) {
	for _, c := range []struct {
		n     uint64
		bytes int
		want  string
	}{
		{258, 2, "0102"},
		{0, 0, ""}, {1, 0, ""}, {math.MaxUint64, 0, ""},
		{0, 1, "00"}, {9, 1, "09"}, {10, 1, "0a"}, {255, 1, "ff"}, {256, 1, "00"}, {511, 1, "ff"},
		{0xabc, 2, "0abc"}, {0x12345, 2, "2345"},
		{0x1234567, 3, "234567"},
		{0xdeadbeef, 4, "deadbeef"}, {0xdeadbeef, 3, "adbeef"}, {1 << 32, 4, "00000000"},
		{1<<40 + 7, 5, "0000000007"},
		{0x0123456789ab, 6, "0123456789ab"},
		{0x0123456789abcd, 7, "0123456789abcd"},
		{0x0123456789abcdef, 8, "0123456789abcdef"}, {math.MaxUint64, 8, "ffffffffffffffff"}, {0, 8, "0000000000000000"},
		{math.MaxUint64, -1, ""}, {5, math.MinInt, ""},
		{5, 9, "0000000000000005"}, {5, 10, "0000000000000005"}, {math.MaxUint64, math.MaxInt, "ffffffffffffffff"},
	} {
		if got := wire.Number(c.n, c.bytes); got != c.want {
			t.Errorf("Number(%d, %d): %q, not %q", c.n, c.bytes, got, c.want)
		}
	}
}

// numbers is numbers around each power of two.
func numbers() []uint64 {
	all := []uint64{0, math.MaxUint64, 0x0123456789abcdef, 0xfedcba9876543210}
	for i := range 64 {
		all = append(all, 1<<i-1, 1<<i, 1<<i+1)
	}
	return all
}

// 3.1: the lowest bytes of a number, whatever it is.
func TestNumber(t *testing.T) {
	for _, n := range numbers() {
		whole := fmt.Sprintf("%016x", n)
		for bytes := -3; bytes <= 12; bytes++ {
			want := whole[16-2*min(max(bytes, 0), 8):]
			if got := wire.Number(n, bytes); got != want {
				t.Errorf("Number(%d, %d): %q, not %q", n, bytes, got, want)
			}
		}
	}
}

// 3.1: a frame is the count, the check of the count and the text, and the text.
func TestFrame(t *testing.T) {
	for s, want := range map[string]string{
		"":   "00000000" + "0ff37de5",
		"a":  "00000001" + "bc4c8449" + "a",
		"bc": "00000002" + "22241acc" + "bc",
	} {
		if got := wire.Frame(s); got != want {
			t.Errorf("Frame(%q): %q, not %q", s, got, want)
		}
	}
	for _, s := range texts() {
		if got, want := wire.Frame(s), wantedFrame(s); got != want {
			t.Errorf("Frame(%.60q): %.60q, not %.60q", s, got, want)
		}
	}
}

// 3.1: a frame's text, whatever stands ahead of it and behind it.
func TestUnframe(t *testing.T) {
	for _, s := range texts() {
		f := wantedFrame(s)
		unframed(t, f, 0, s, len(f))
		unframed(t, "xyz"+f, 3, s, 3+len(f))
		unframed(t, f+"xyz", 0, s, len(f))
		unframed(t, f+f, len(f), s, 2*len(f))
		unframed(t, "0"+f+"0", 1, s, 1+len(f))
	}
}

// 3.1: frames one behind the other, gone through by the places behind them.
func TestUnframeMany(t *testing.T) {
	var all strings.Builder
	for _, s := range texts() {
		all.WriteString(wire.Frame(s))
	}
	bytes, at := all.String(), 0
	for _, s := range texts() {
		got, behind, e := wire.Unframe(bytes, at)
		if got != s || behind != at+16+len(s) || e != api.OK {
			t.Fatalf("at %d: %.60q, %d, %d; not %.60q", at, got, behind, int(e), s)
		}
		at = behind
	}
	if at != len(bytes) {
		t.Fatalf("the last frame ends at %d, not at %d", at, len(bytes))
	}
	refused(t, bytes, at, api.ErrCut)
}

// 3.1: each place from 0 to the length of two frames, and those that are none.
func TestUnframePlaces(t *testing.T) {
	first, second := wantedFrame("a0b"), wantedFrame("")
	s := first + second
	for at := range len(s) + 1 {
		switch {
		case at == 0:
			unframed(t, s, at, "a0b", len(first))
		case at == len(first):
			unframed(t, s, at, "", len(s))
		default:
			if got, place, e := wire.Unframe(s, at); got != "" || place != 0 || e == api.OK || e == api.ErrArg {
				t.Errorf("at %d: %q, %d, %d", at, got, place, int(e))
			}
		}
	}
	for _, bytes := range []string{"", "x", first, s} {
		for _, at := range []int{-1, -2, -len(s), math.MinInt, len(bytes) + 1, len(bytes) + 2, len(bytes) + 16, math.MaxInt} {
			refused(t, bytes, at, api.ErrArg)
		}
		refused(t, bytes, len(bytes), api.ErrCut)
	}
}

// 3.1: bytes that end at each place of a frame.
func TestUnframeCut(t *testing.T) {
	for _, s := range []string{"", "a", "abc", text(300)} {
		f := wantedFrame(s)
		for n := range len(f) {
			refused(t, f[:n], 0, api.ErrCut)
			refused(t, "zz"+f[:n], 2, api.ErrCut)
		}
	}
}

// 3.1: letters that are no digits, at each place of the count and of the check.
func TestUnframeLetters(t *testing.T) {
	f := wantedFrame("abc")
	for i := range 16 {
		for c := range 256 {
			if strings.IndexByte("0123456789abcdef", byte(c)) < 0 {
				refused(t, f[:i]+string([]byte{byte(c)})+f[i+1:], 0, api.ErrForm)
			}
		}
	}
}

// 3.1: a check that is another one: each other digit of it, each other byte of the text.
func TestUnframeChecks(t *testing.T) {
	f := wantedFrame("abc")
	for i := 8; i < 16; i++ {
		for _, c := range []byte("0123456789abcdef") {
			if c != f[i] {
				refused(t, f[:i]+string([]byte{c})+f[i+1:], 0, api.ErrForm)
			}
		}
	}
	for i := 16; i < len(f); i++ {
		for turn := 1; turn < 256; turn++ {
			refused(t, f[:i]+string([]byte{f[i] ^ byte(turn)})+f[i+1:], 0, api.ErrForm)
		}
	}
	// The check is of the count, too, not of the text alone; and of the count as digits.
	for _, s := range []string{"a", "abc"} {
		count := fmt.Sprintf("%08x", len(s))
		for _, other := range []string{s, s + count, string([]byte{0, 0, 0, byte(len(s))}) + s} {
			refused(t, count+fmt.Sprintf("%08x", wantedCheck(other))+s, 0, api.ErrForm)
		}
	}
	// A shorter count, with the same check behind it.
	refused(t, "00000002"+f[8:], 0, api.ErrForm)
}

// 3.1: which error comes first.
func TestUnframeFirst(t *testing.T) {
	for _, c := range []struct {
		s    string
		at   int
		want api.Errno
	}{
		{"", 1, api.ErrArg}, {"zzzzzzzz", -1, api.ErrArg}, {"80000000", 9, api.ErrArg},
		// fewer letters than a count has, no digits among them
		{"zzzzzzz", 0, api.ErrCut}, {"8000000", 0, api.ErrCut}, {"xxxxxxxxxxzzz", 8, api.ErrCut},
		// a count that is none, with nothing behind it
		{"0000000z", 0, api.ErrForm}, {"z0000000", 0, api.ErrForm}, {"F0000000", 0, api.ErrForm},
		// a count above its most, with nothing behind it, or with what is no number
		{"80000000", 0, api.ErrMany}, {"ffffffff", 0, api.ErrMany}, {"80000000zzzzzzzz", 0, api.ErrMany}, {"8000000000000000", 0, api.ErrMany},
		// the greatest count, with nothing behind it, with what is no number, with no text
		{"7fffffff", 0, api.ErrCut}, {"7fffffffzzzzzzz", 0, api.ErrCut}, {"7fffffffzzzzzzzz", 0, api.ErrForm}, {"7fffffff00000000", 0, api.ErrCut}, {"7fffffff00000000ab", 0, api.ErrCut},
		// a check that is none, or another one, ahead of a text that ends too early
		{"000000030000000Z", 0, api.ErrForm}, {"000000030000000Zab", 0, api.ErrForm}, {"0000000300000000ab", 0, api.ErrCut}, {"0000000300000000abc", 0, api.ErrForm},
	} {
		refused(t, c.s, c.at, c.want)
	}
}
