package merkle_test

import (
	"arbour/api"
	"arbour/merkle"
	"encoding/hex"
	"fmt"
	"math"
	"slices"
	"strings"
	"testing"
)

// told wants what Of answers, twice.
func told(t *testing.T, s string, want api.Manifest, wantError api.Errno) {
	t.Helper()
	for range 2 {
		if m, e := merkle.Of(s); !sameManifest(m, want) || e != wantError {
			t.Fatalf("Of of %d bytes: %d bytes, %d chunks, %d; not %d, %d, %d", len(s), m.Size, len(m.Chunks), int(e), want.Size, len(want.Chunks), int(wantError))
		}
	}
}

// 9.1: a chunk's digest is for the purpose K, of any bytes.
func TestDigest(t *testing.T) {
	draw := drawer(1)
	for _, n := range []int{0, 1, 31, 32, 33, 117, 118, 119, 127, 128, 129, 511, 512, 513, 8192, 8193, 100000} {
		s := drawn(draw, n, 256)
		if got, want := merkle.Digest(s), digestOf(s); got != want {
			t.Errorf("Digest of %d bytes: %x, not %x", n, got, want)
		}
	}
	seen := make(map[string]string)
	for _, s := range []string{"", "a", "b", "ab", "ba", "\x00", "\x00\x00", digestOf(""), digestOf("a")} {
		h := merkle.Digest(s)
		if other, ok := seen[h]; ok {
			t.Errorf("%q and %q have one digest", s, other)
		}
		seen[h] = s
	}
}

// counts is how many digests a tree has: none, one, two, three, powers of two, one more and one fewer.
func counts() []int {
	l := []int{0, 1, 2, 3}
	for k := 4; k <= 2048; k *= 2 {
		l = append(l, k-1, k, k+1, k+k/2)
	}
	return l
}

// 9.1: the root, by the definition.
func TestRoot(t *testing.T) {
	for _, n := range counts() {
		l := hashes(n)
		given := slices.Clone(l)
		for range 2 {
			if got, want := merkle.Root(l), rootOf(l); got != want {
				t.Errorf("Root of %d: %x, not %x", n, got, want)
			}
		}
		if !slices.Equal(l, given) {
			t.Errorf("Root of %d changed them", n)
		}
	}
	for n := range 70 {
		if got, want := merkle.Root(hashes(n)), rootOf(hashes(n)); got != want {
			t.Errorf("Root of %d: %x, not %x", n, got, want)
		}
	}
}

// 9.1: roots of few digests, each join written out.
func TestRootWritten(t *testing.T) {
	a, b, c, d, e := digestOf("a"), digestOf("b"), digestOf("c"), digestOf("d"), digestOf("e")
	j := func(x, y string) string { return taggedOf("J", x, y) }
	for want, l := range map[string][]string{
		taggedOf("E"):                         nil,
		a:                                     {a},
		j(a, b):                               {a, b},
		j(b, a):                               {b, a},
		j(a, a):                               {a, a},
		j(j(a, b), c):                         {a, b, c},
		j(j(a, b), j(c, d)):                   {a, b, c, d},
		j(j(j(a, b), j(c, d)), e):             {a, b, c, d, e},
		j(j(j(a, b), j(c, d)), j(e, a)):       {a, b, c, d, e, a},
		j(j(j(a, b), j(c, d)), j(j(e, a), b)): {a, b, c, d, e, a, b},
	} {
		if got := merkle.Root(l); got != want {
			t.Errorf("Root of %d: %x, not %x", len(l), got, want)
		}
	}
	if got := merkle.Root([]string{}); got != taggedOf("E") {
		t.Errorf("Root of an empty list: %x", got)
	}
}

// 9.1: what stands in the place of digests may be any texts.
func TestRootOfAnyTexts(t *testing.T) {
	for _, l := range [][]string{{""}, {"a"}, {"", ""}, {"a", ""}, {"", "a"}, {"ab", "c"}, {"a", "bc"}, {strings.Repeat("x", 1000), "", "y"}} {
		if got, want := merkle.Root(l), rootOf(l); got != want {
			t.Errorf("Root(%q): %x, not %x", l, got, want)
		}
	}
}

// 9.1: a file's digest, by the definition: it hangs on the size, on how many chunks, and on each of them.
func TestFile(t *testing.T) {
	for _, n := range counts() {
		for _, size := range []int{0, 1, n, 255, 256, 8191, 8192, 8193, math.MaxInt32, math.MaxUint32} {
			m := api.Manifest{Size: size, Chunks: hashes(n)}
			given := slices.Clone(m.Chunks)
			if got, want := merkle.File(m), fileDigestOf(size, m.Chunks); got != want {
				t.Errorf("File of %d bytes, %d chunks: %x, not %x", size, n, got, want)
			}
			if !slices.Equal(m.Chunks, given) {
				t.Errorf("File of %d chunks changed them", n)
			}
		}
	}
	none := taggedOf("F", "00000000", "00000000", taggedOf("E"))
	if merkle.File(api.Manifest{}) != none || merkle.File(api.Manifest{Chunks: []string{}}) != none {
		t.Error("a file of nothing has another digest")
	}
	one := taggedOf("F", "00000005", "00000001", taggedOf("K", "hello"))
	if merkle.File(api.Manifest{Size: 5, Chunks: []string{merkle.Digest("hello")}}) != one {
		t.Error("a file of one chunk has another digest")
	}
}

// 9.1: digests that were made by another program.
func TestKnownDigests(t *testing.T) {
	for _, c := range []struct{ what, got, want string }{
		{"Digest(abc)", merkle.Digest("abc"), knownDigest},
		{"Root of none", merkle.Root(nil), knownEmpty},
		{"Root of three", merkle.Root([]string{merkle.Digest("a"), merkle.Digest("b"), merkle.Digest("c")}), knownThree},
		{"File of nothing", merkle.File(api.Manifest{}), knownNothing},
		{"File of abc", merkle.File(api.Manifest{Size: 3, Chunks: []string{merkle.Digest("abc")}}), knownFile},
	} {
		if got := hex.EncodeToString([]byte(c.got)); got != c.want {
			t.Errorf("%s: %s, not %s", c.what, got, c.want)
		}
	}
}

// 9.1 and T3: a file's manifest; each that is told may be; unlike files have unlike digests.
func TestOf(t *testing.T) {
	seen := make(map[string]string)
	for _, s := range texts(t) {
		want := manifestOf(s)
		told(t, s, want, api.OK)
		checked(t, want, api.OK)
		h := merkle.File(want)
		if other, ok := seen[h]; ok && other != s {
			t.Errorf("%.40q and %.40q have one digest", s, other)
		}
		seen[h] = s
	}
	told(t, "", api.Manifest{}, api.OK)
	told(t, "abc", api.Manifest{Size: 3, Chunks: []string{digestOf("abc")}}, api.OK)
}

// 9.1: just as many bytes as a file may have, and more.
func TestOfMost(t *testing.T) {
	draw := drawer(2)
	for _, s := range []string{drawn(draw, fileMost, 256), seldomCut(t, fileMost), oftenCut(t, fileMost)} {
		told(t, s, manifestOf(s), api.OK)
		for _, more := range []string{"a", "ab", s} {
			told(t, s+more, api.Manifest{}, api.ErrMany)
		}
	}
	told(t, strings.Repeat("a", 1<<20), api.Manifest{}, api.ErrMany)
}

// 9.1: what Of answers is the caller's.
func TestOfIsTheCallers(t *testing.T) {
	s := oftenCut(t, 2000)
	m, _ := merkle.Of(s)
	for i := range m.Chunks {
		m.Chunks[i] = "other"
	}
	_ = append(m.Chunks[:1], "other")
	told(t, s, manifestOf(s), api.OK)
}

// checked wants what Check answers, and Encode with it.
func checked(t *testing.T, m api.Manifest, want api.Errno) {
	t.Helper()
	given := slices.Clone(m.Chunks)
	what := fmt.Sprintf("%d bytes, %d chunks", m.Size, len(m.Chunks))
	for range 2 {
		if e := merkle.Check(m); e != want {
			t.Errorf("Check of %s: %d, not %d", what, int(e), int(want))
		}
		s, e := merkle.Encode(m)
		if e != want || want != api.OK && s != "" || want == api.OK && s != bytesOf(m) {
			t.Errorf("Encode of %s: %.60q, %d; not %d", what, s, int(e), int(want))
		}
	}
	if !slices.Equal(m.Chunks, given) {
		t.Errorf("%s: the digests were changed", what)
	}
}

// 9.1: sizes and chunks at all edges that the chapter names.
func TestCheckEdges(t *testing.T) {
	for _, c := range []struct {
		size, many int
		want       api.Errno
	}{
		{0, 0, api.OK}, {0, 1, api.ErrForm}, {0, 2, api.ErrForm}, {0, manyMost, api.ErrForm},
		{-1, 0, api.ErrForm}, {-1, 1, api.ErrForm}, {math.MinInt, 0, api.ErrForm}, {math.MinInt, 1, api.ErrForm}, {-chunkMost, 1, api.ErrForm}, {-1 << 32, 0, api.ErrForm},
		{1, 0, api.ErrForm}, {chunkMost, 0, api.ErrForm}, {fileMost, 0, api.ErrForm}, {math.MaxInt, 0, api.ErrForm},
		{1, 1, api.OK}, {chunkMost, 1, api.OK}, {chunkMost + 1, 1, api.ErrForm}, {1 << 32, 1, api.ErrForm}, {1<<32 + 1, 1, api.ErrForm},
		{1, 2, api.ErrForm}, {2, 2, api.OK}, {2 * chunkMost, 2, api.OK}, {2*chunkMost + 1, 2, api.ErrForm},
		{99, 100, api.ErrForm}, {100, 100, api.OK}, {101, 100, api.OK},
		{15 * chunkMost, 15, api.OK}, {15*chunkMost + 1, 15, api.ErrForm},
		{fileMost - 1, 16, api.OK}, {fileMost, 16, api.OK}, {fileMost + 1, 16, api.ErrForm},
		{fileMost, 15, api.ErrForm}, {fileMost, 17, api.OK}, {fileMost + 1, 17, api.ErrForm}, {17 * chunkMost, 17, api.ErrForm},
		{manyMost - 1, manyMost, api.ErrForm}, {manyMost, manyMost, api.OK}, {manyMost + 1, manyMost, api.OK}, {fileMost, manyMost, api.OK}, {fileMost + 1, manyMost, api.ErrForm}, {manyMost * chunkMost, manyMost, api.ErrForm},
		{manyMost, manyMost + 1, api.ErrForm}, {manyMost + 1, manyMost + 1, api.ErrForm}, {fileMost, manyMost + 1, api.ErrForm}, {fileMost, fileMost, api.ErrForm}, {fileMost, 2 * fileMost, api.ErrForm},
		{math.MaxInt, manyMost, api.ErrForm}, {math.MaxInt, 1 << 20, api.ErrForm}, {math.MinInt, 1 << 20, api.ErrForm},
	} {
		checked(t, api.Manifest{Size: c.size, Chunks: hashes(c.many)}, c.want)
	}
	checked(t, api.Manifest{Chunks: []string{}}, api.OK)
}

// 9.1: a digest of another length, at each place.
func TestCheckDigests(t *testing.T) {
	for _, many := range []int{1, 2, 3, manyMost} {
		for _, at := range []int{0, many / 2, many - 1} {
			m := api.Manifest{Size: many, Chunks: hashes(many)}
			for n := range 70 {
				m.Chunks[at] = strings.Repeat("h", n)
				want := api.ErrForm
				if n == digested {
					want = api.OK
				}
				checked(t, m, want)
			}
			m.Chunks[at] = strings.Repeat("h", 1<<16+digested)
			checked(t, m, api.ErrForm)
		}
	}
	// Two that are of the length together.
	checked(t, api.Manifest{Size: 2, Chunks: []string{strings.Repeat("h", 31), strings.Repeat("h", 33)}}, api.ErrForm)
}

// 9.1: sizes and numbers of chunks that are drawn, held against the words.
func TestCheckDrawn(t *testing.T) {
	draw, may := drawer(3), 0
	for range 4000 {
		many := draw(manyMost + 20)
		if draw(2) == 0 {
			many = draw(20)
		}
		size := draw(fileMost + 600)
		if draw(2) == 0 {
			size = many*chunkMost - 2 + draw(5)
		}
		if draw(4) == 0 {
			size = many - 2 + draw(5)
		}
		right := size >= 0 && size <= fileMost && many <= manyMost && (many == 0) == (size == 0) && size >= many && size <= chunkMost*many
		want := api.ErrForm
		if right {
			want = api.OK
			may++
		}
		checked(t, api.Manifest{Size: size, Chunks: hashes(many)}, want)
	}
	if may < 500 || may > 3500 {
		t.Errorf("%d may be", may)
	}
}
