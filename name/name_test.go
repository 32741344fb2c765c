package name_test

import (
	"arbour/name"
	"strings"
	"testing"
)

// legal wants whether a name may be.
func legal(t *testing.T, s string, want bool) {
	t.Helper()
	if name.Legal(s) != want {
		t.Errorf("Legal(%.80q) is not %t", s, want)
	}
}

// 14, Words: the bytes that may stand are those from ! to ~, but nine.
func TestStanding(t *testing.T) {
	n := 0
	for c := range 256 {
		is := c >= 33 && c <= 126 && !strings.Contains("/\\:*?\"<>|", letter(c))
		if is != may(byte(c)) {
			t.Errorf("%q: the tests' own list is wrong", letter(c))
		}
		if is {
			n++
		}
	}
	if n != len(standing) {
		t.Errorf("%d bytes may stand", n)
	}
}

// 14.1: each byte alone, ahead of a letter, behind one and between two.
func TestLegalBytes(t *testing.T) {
	for c := range 256 {
		s := letter(c)
		legal(t, s, may(byte(c)) && s != ".")
		legal(t, s+"a", may(byte(c)))
		legal(t, "a"+s, may(byte(c)) && s != ".")
		legal(t, "a"+s+"b", may(byte(c)))
	}
}

// 14.1: a byte that may not stand, at each place of a long name.
func TestLegalPlaces(t *testing.T) {
	for i := range nameMost {
		for _, c := range "\x00 /\\:*?\"<>|\x7f" {
			legal(t, strings.Repeat("a", i)+string(c)+strings.Repeat("a", nameMost-1-i), false)
		}
		for _, s := range []string{"\x80", "\xff"} {
			legal(t, strings.Repeat("a", i)+s+strings.Repeat("a", nameMost-1-i), false)
		}
		legal(t, strings.Repeat("a", i)+"."+strings.Repeat("a", nameMost-1-i), i < nameMost-1)
	}
}

// 14.1: names by their lengths.
func TestLegalLengths(t *testing.T) {
	for n := range 3 * nameMost {
		for _, s := range []string{"a", "Z", "~", "!", "_", "0"} {
			legal(t, strings.Repeat(s, n), n >= 1 && n <= 32)
		}
	}
	legal(t, strings.Repeat("a", 1<<20), false)
	// Bytes count, not letters: these are 32 bytes and fewer letters.
	legal(t, strings.Repeat("\u00e9", 16), false)
}

// 14.1: points may stand all over a name, but not at its end.
func TestLegalPoints(t *testing.T) {
	for _, s := range []string{".", "..", "...", "a.", "a..", ".a.", "a.b.", strings.Repeat(".", 32), strings.Repeat("a", 31) + "."} {
		legal(t, s, false)
	}
	for _, s := range []string{".a", "..a", "a.b", "a..b", ".a.b", "a.b.c", "._", ".~", strings.Repeat(".", 31) + "a"} {
		legal(t, s, true)
	}
	legal(t, strings.Repeat(".", 32)+"a", false)
}

// fold wants a text's small letters, and that these stay as they are.
func fold(t *testing.T, s, want string) {
	t.Helper()
	if small := name.Fold(s); small != want {
		t.Errorf("Fold(%.80q): %.80q, not %.80q", s, small, want)
	}
	if small := name.Fold(want); small != want {
		t.Errorf("Fold(%.80q), which is small: %.80q", want, small)
	}
}

// 14.1: each byte alone, and between others.
func TestFoldBytes(t *testing.T) {
	for c := range 256 {
		s, want := letter(c), letter(c)
		if c >= 65 && c <= 90 {
			want = letter(c + 32)
		}
		fold(t, s, want)
		fold(t, "A"+s+"\xffz", "a"+want+"\xffz")
	}
	fold(t, great, little)
	fold(t, little, little)
}

// 14.1: letters great and small, bytes that are no letters, none; letters beyond A to Z stay, and bytes that are no letters of any tongue.
func TestFold(t *testing.T) {
	for s, want := range map[string]string{
		"":                             "",
		"a":                            "a",
		"aBc":                          "abc",
		"README.md":                    "readme.md",
		"A~1":                          "a~1",
		"0123 @[`{\x00\x7f":            "0123 @[`{\x00\x7f",
		"\u00c9\u0130\u212a\u00df\xc3": "\u00c9\u0130\u212a\u00df\xc3",
		"\xff\xfeA\x80":                "\xff\xfea\x80",
		"A/B/../C.":                    "a/b/../c.",
		strings.Repeat("Xy", 1<<16):    strings.Repeat("xy", 1<<16),
	} {
		fold(t, s, want)
	}
}

// fix wants a text's name that may be, and that it is as it is when it is fixed again.
func fix(t *testing.T, s, want string) {
	t.Helper()
	got := name.Fix(s)
	if got != want {
		t.Errorf("Fix(%.80q): %q, not %q", s, got, want)
	}
	if !name.Legal(got) || !legalOf(got) || name.Fix(got) != got {
		t.Errorf("Fix(%.80q): %q may not be", s, got)
	}
}

// 14.1: each byte alone, ahead of a letter, behind one and between two.
func TestFixBytes(t *testing.T) {
	for c := range 256 {
		in, end := "_", "_"
		if may(byte(c)) {
			in = letter(c)
		}
		if in != "." {
			end = in
		}
		fix(t, letter(c), end)
		fix(t, letter(c)+"a", in+"a")
		fix(t, "a"+letter(c), "a"+end)
		fix(t, "a"+letter(c)+"b", "a"+in+"b")
		fix(t, strings.Repeat(letter(c), 100), strings.Repeat(in, 31)+end)
	}
}

// 14.1: texts that may be, no bytes, bytes that may not stand, points at the end.
func TestFix(t *testing.T) {
	for s, want := range map[string]string{
		"":              "_",
		"a":             "a",
		"_":             "_",
		"README.md":     "README.md",
		".a":            ".a",
		"a~1":           "a~1",
		"x/y.":          "x_y_",
		"a b":           "a_b",
		".":             "_",
		"..":            "._",
		"...":           ".._",
		"a.":            "a_",
		"a..":           "a._",
		"a./":           "a._",
		"/":             "_",
		"/a":            "_a",
		"a/":            "a_",
		"\x00":          "_",
		"\x00\x00.":     "___",
		"\u00e9":        "__",
		"\xff\x80a\x7f": "__a_",
		"a\nb\tc\r":     "a_b_c_",
		standing:        standing[:32],
	} {
		fix(t, s, want)
	}
}

// 14.1: the first 32 bytes, and no more: what stands behind them is as if it were not there; a point that comes to the end is none any more.
func TestFixLong(t *testing.T) {
	long := strings.Repeat("0123456789", 4)
	fix(t, long[:31], long[:31])
	fix(t, long[:32], long[:32])
	fix(t, long[:33], long[:32])
	fix(t, long[:31]+".", long[:31]+"_")
	fix(t, long[:31]+".a", long[:31]+"_")
	fix(t, long[:31]+"..", long[:31]+"_")
	fix(t, long[:30]+"..", long[:30]+"._")
	fix(t, long[:30]+"..a", long[:30]+"._")
	fix(t, long[:30]+".a.", long[:30]+".a")
	fix(t, long[:32]+".", long[:32])
	fix(t, long[:32]+"/", long[:32])
	fix(t, long[:31]+"/", long[:31]+"_")
	fix(t, long[:31]+"\u00e9", long[:31]+"_")
	fix(t, strings.Repeat(".", 1<<20), strings.Repeat(".", 31)+"_")
	fix(t, strings.Repeat("\u00e9", 1<<20), strings.Repeat("_", 32))
}

// 14.1: drawn texts, of any bytes, against the chapter's words.
func TestDrawnTexts(t *testing.T) {
	draw := drawer(5)
	for range 20000 {
		s := ""
		for range draw(40) {
			s += []string{"a", "Z", ".", "/", "~", letter(draw(256))}[draw(6)]
		}
		legal(t, s, legalOf(s))
		fold(t, s, smallOf(s))
		fix(t, s, fixedOf(s))
		if legalOf(s) && name.Fix(s) != s {
			t.Errorf("Fix(%q), which may be: %q", s, name.Fix(s))
		}
	}
}
