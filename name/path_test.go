package name_test

import (
	"arbour/name"
	"strings"
	"testing"
)

// 14.1: no /, one ahead, one at the end, several, nothing.
func TestSplit(t *testing.T) {
	for path, want := range map[string][2]string{
		"":                                {"", ""},
		"a":                               {"", "a"},
		"a.b":                             {"", "a.b"},
		"a\\b":                            {"", "a\\b"},
		"/":                               {"", ""},
		"/a":                              {"", "a"},
		"a/":                              {"a", ""},
		"a/b":                             {"a", "b"},
		"a/b/c":                           {"a/b", "c"},
		"a/b/":                            {"a/b", ""},
		"/a/b":                            {"/a", "b"},
		"//":                              {"/", ""},
		"a//b":                            {"a/", "b"},
		"../.":                            {"..", "."},
		"\xff/\x00/\xc3":                  {"\xff/\x00", "\xc3"},
		strings.Repeat("ab/", 1000) + "c": {strings.Repeat("ab/", 999) + "ab", "c"},
	} {
		if folder, last := name.Split(path); folder != want[0] || last != want[1] {
			t.Errorf("Split(%.80q): %.80q, %.80q; not %.80q", path, folder, last, want)
		}
	}
}

// 14.1: what is split is the whole, whatever it has.
func TestSplitDrawn(t *testing.T) {
	draw := drawer(3)
	for range 5000 {
		path := ""
		for range draw(12) {
			path += []string{"/", "a", letter(draw(256))}[draw(3)]
		}
		folder, last := name.Split(path)
		whole := folder + "/" + last
		if !strings.Contains(path, "/") {
			whole = folder + last
		}
		if whole != path || strings.Contains(last, "/") {
			t.Fatalf("Split(%q): %q, %q", path, folder, last)
		}
	}
}

// path wants whether a text may be a path.
func path(t *testing.T, s string, want bool) {
	t.Helper()
	if name.Path(s) != want {
		t.Errorf("Path(%.300q) is not %t", s, want)
	}
}

// 14.1: one name, several; parts that are empty, or may not be.
func TestPath(t *testing.T) {
	for _, s := range []string{"a", "a/b", "a/b/c", ".a/..b", "A/a", "~/_", "a~1/b.c", strings.Repeat("a", 32), strings.Repeat("a", 32) + "/" + strings.Repeat("b", 32)} {
		path(t, s, true)
	}
	for _, s := range []string{
		"", "/", "//", "/a", "a/", "a//b", "a///b", "//a", "a//", "/a/b", "a/b/", // empty parts
		".", "..", "./a", "../a", "a/.", "a/..", "a/./b", "a/../b", "a./b", "a/b.", // points
		" ", "a b", "a/ b", "a/b ", "a\\b", "c:/a", "a/*", "a/b?/c", "a\x00/b", "a/\x7f", "a/\xff", "\u00e9/a", // bytes
		strings.Repeat("a", 33), "a/" + strings.Repeat("a", 33), strings.Repeat("a", 33) + "/a", "a/" + strings.Repeat("a", 33) + "/a",
	} {
		path(t, s, false)
	}
}

// 14.1: each byte as a part of its own: ahead, in the midst, at the end.
func TestPathBytes(t *testing.T) {
	for c := range 256 {
		s := letter(c)
		is := may(byte(c)) && s != "."
		for _, text := range []string{s, s + "/a", "a/" + s, "a/" + s + "/b"} {
			path(t, text, is)
		}
		path(t, "a/b"+s+"c/d", may(byte(c)) || s == "/")
	}
}

// 14.1: a path has at most MaxPath - 2 bytes.
func TestPathLengths(t *testing.T) {
	for _, part := range []string{"a", "ab", "abcdefg", strings.Repeat("a", 31), strings.Repeat("a", 32)} {
		whole := strings.Repeat(part+"/", 300)
		for n := range 300 {
			s := whole[:n]
			path(t, s, n >= 1 && n <= pathMost && !strings.HasSuffix(s, "/"))
		}
	}
	path(t, strings.Repeat("a/", 118)+"ab", true)
	path(t, strings.Repeat("a/", 118)+"abc", false)
	path(t, strings.Repeat("a/", 119)+"a", false)
	path(t, strings.Repeat("a/", 1<<20)+"a", false)
}
