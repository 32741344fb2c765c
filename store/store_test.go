package store_test

import (
	"arbour/api"
	"arbour/chunk"
	"arbour/merkle"
	"arbour/store"
	"fmt"
	"math"
	"slices"
	"strings"
	"testing"
)

// drawer draws numbers below n, the same ones at each run.
func drawer(seed uint64) func(n int) int {
	return func(n int) int {
		seed = seed*6364136223846793005 + 1442695040888963407
		return int(seed >> 33 % uint64(n))
	}
}

// drawn is n bytes.
func drawn(draw func(int) int, n int) string {
	s := make([]byte, n)
	for i := range s {
		s[i] = byte(draw(256))
	}
	return string(s)
}

// shortChunks is n chunks of MinChunk bytes that end there wherever they stand, no two alike.
func shortChunks(t *testing.T, n int) []string {
	t.Helper()
	draw := drawer(1)
	var l []string
	for range 1000000 {
		if c := drawn(draw, api.MinChunk); chunk.Cut(c+"-") == api.MinChunk && !slices.Contains(l, c) {
			l = append(l, c)
		}
		if len(l) == n {
			return l
		}
	}
	t.Fatal("no such chunks were found")
	return nil
}

// longChunks is n chunks of MaxChunk bytes, each of bytes of one kind.
func longChunks(t *testing.T, n int) []string {
	t.Helper()
	var l []string
	for b := range 256 {
		if c := strings.Repeat(string([]byte{byte(b)}), api.MaxChunk); chunk.Cut(c+"-") == api.MaxChunk {
			l = append(l, c)
		}
		if len(l) == n {
			return l
		}
	}
	t.Fatal("no such chunks were found")
	return nil
}

// opened is a store for so many bytes.
func opened(t *testing.T, quota int) *store.Store {
	t.Helper()
	s, e := store.New(quota)
	if s == nil || e != api.OK {
		t.Fatalf("New(%d): %v, %d", quota, s, int(e))
	}
	return s
}

// digestsOf is chunks' digests.
func digestsOf(chunks ...string) []string {
	var l []string
	for _, c := range chunks {
		l = append(l, merkle.Digest(c))
	}
	return l
}

// manifestOf is the manifest of chunks, with all their bytes.
func manifestOf(chunks ...string) api.Manifest {
	return api.Manifest{Size: len(strings.Join(chunks, "")), Chunks: digestsOf(chunks...)}
}

func sameManifest(a, b api.Manifest) bool {
	return a.Size == b.Size && slices.Equal(a.Chunks, b.Chunks)
}

// stands is all that a store tells of itself.
func stands(s *store.Store) string {
	out := fmt.Sprint(s.Used(), " bytes")
	for _, d := range s.Chunks() {
		c, ok := s.Get(d)
		out += fmt.Sprintf("; chunk %x %q %v %d", d, c, ok, s.Uses(d))
	}
	for f := range s.Files() {
		m, ok := s.Manifest(f)
		x, whole := s.File(f)
		out += fmt.Sprintf("; file %x %d %x %v %q %v %x", f, m.Size, m.Chunks, ok, x, whole, s.Lacks(f))
		for _, d := range m.Chunks {
			out += fmt.Sprint(" ", s.Uses(d))
		}
	}
	return out
}

// has wants that a store has just these chunks. To ask it changes nothing.
func has(t *testing.T, s *store.Store, chunks ...string) {
	t.Helper()
	want := digestsOf(chunks...)
	slices.Sort(want)
	for range 2 {
		if got := s.Chunks(); !slices.Equal(got, want) {
			t.Fatalf("Chunks(): %d, not %d", len(got), len(want))
		}
		for _, c := range chunks {
			if got, ok := s.Get(merkle.Digest(c)); got != c || !ok {
				t.Fatalf("Get: %q, %v; not %q", got, ok, c)
			}
		}
		if want := len(strings.Join(chunks, "")); s.Used() != want {
			t.Fatalf("Used(): %d, not %d", s.Used(), want)
		}
	}
}

// gone wants that a store has no such chunk.
func gone(t *testing.T, s *store.Store, chunks ...string) {
	t.Helper()
	for _, c := range chunks {
		if got, ok := s.Get(merkle.Digest(c)); got != "" || ok {
			t.Fatalf("Get: %q, %v", got, ok)
		}
	}
}

// put wants what Put answers.
func put(t *testing.T, s *store.Store, c string, isNew bool, want api.Errno) {
	t.Helper()
	digest := ""
	if want == api.OK {
		digest = merkle.Digest(c)
	}
	if d, is, e := s.Put(c); d != digest || is != isNew || e != want {
		t.Fatalf("Put of %d bytes: %x, %v, %d; not %x, %v, %d", len(c), d, is, int(e), digest, isNew, int(want))
	}
}

// know wants what Know answers: the file's digest.
func know(t *testing.T, s *store.Store, m api.Manifest, isNew bool, want api.Errno) string {
	t.Helper()
	given := slices.Clone(m.Chunks)
	if is, e := s.Know(m); is != isNew || e != want {
		t.Fatalf("Know of %d chunks: %v, %d; not %v, %d", len(m.Chunks), is, int(e), isNew, int(want))
	}
	if !slices.Equal(m.Chunks, given) {
		t.Fatal("Know changed the manifest")
	}
	return merkle.File(m)
}

// uses wants how often a chunk is used.
func uses(t *testing.T, s *store.Store, c string, want int) {
	t.Helper()
	if n := s.Uses(merkle.Digest(c)); n != want {
		t.Fatalf("Uses of %.20q: %d, not %d", c, n, want)
	}
}

// files wants that a store has just these files, rising.
func files(t *testing.T, s *store.Store, want ...string) {
	t.Helper()
	slices.Sort(want)
	for range 2 {
		if got := slices.Collect(s.Files()); !slices.Equal(got, want) {
			t.Fatalf("Files(): %x, not %x", got, want)
		}
	}
}

// The limits of the chapter, written out.
func TestLimits(t *testing.T) {
	if api.MaxFile != 8192 || api.MinChunk != 32 || api.MaxChunk != 512 || api.ErrQuota != 100 {
		t.Error("package api has other limits")
	}
}

// 10.1: a quota below 0, of 0, and above it.
func TestNew(t *testing.T) {
	for _, quota := range []int{-1, -2, -512, math.MinInt32, math.MinInt} {
		if s, e := store.New(quota); s != nil || e != api.ErrArg {
			t.Errorf("New(%d): %v, %d", quota, s, int(e))
		}
	}
	for _, quota := range []int{0, 1, 511, 8192, math.MaxInt32, math.MaxInt} {
		s, other := opened(t, quota), opened(t, quota)
		has(t, s)
		files(t, s)
		if quota < 512 {
			put(t, s, strings.Repeat("x", quota+1), false, api.ErrQuota)
		}
		if quota > 0 {
			put(t, s, "a", true, api.OK)
			has(t, s, "a")
		}
		has(t, other)
	}
}

// 10.1: a store for no bytes keeps what has none.
func TestNoQuota(t *testing.T) {
	s := opened(t, 0)
	put(t, s, "a", false, api.ErrQuota)
	if d, e := s.Add("a"); d != "" || e != api.ErrQuota {
		t.Errorf("Add: %x, %d", d, int(e))
	}
	has(t, s)
	files(t, s)
	nothing, e := s.Add("")
	if x, ok := s.File(nothing); e != api.OK || x != "" || !ok {
		t.Errorf("File of nothing: %q, %v, %d", x, ok, int(e))
	}
	f := know(t, s, manifestOf("a"), true, api.OK)
	files(t, s, nothing, f)
	has(t, s)
	uses(t, s, "a", 1)
}

// R1: a store that New did not make is as one for no bytes.
func TestZeroStore(t *testing.T) {
	var s, other, third store.Store
	has(t, &s)
	files(t, &s)
	put(t, &s, "a", false, api.ErrQuota)
	if s.Forget("f") || s.Collect() != 0 || len(s.Lacks("f")) != 0 {
		t.Error("an empty store has something")
	}
	f := know(t, &s, manifestOf("a", "b"), true, api.OK)
	files(t, &s, f)
	uses(t, &s, "b", 1)
	if !s.Forget(f) {
		t.Error("Forget: false")
	}
	uses(t, &s, "b", 0)
	if d, e := other.Add(""); e != api.OK || d != merkle.File(api.Manifest{}) {
		t.Errorf("Add of nothing: %x, %d", d, int(e))
	}
	if d, e := third.Add("a"); e != api.ErrQuota || d != "" {
		t.Errorf("Add: %x, %d", d, int(e))
	}
}

// 10.1: how many bytes a chunk has.
func TestPutLengths(t *testing.T) {
	s := opened(t, 1<<20)
	var all []string
	for _, n := range []int{0, 1, 2, 31, 32, 33, 511, 512, 513, 514, 1024, 8192, 1 << 20} {
		c := strings.Repeat("c", n)
		if n >= 1 && n <= 512 {
			put(t, s, c, true, api.OK)
			all = append(all, c)
		} else {
			put(t, s, c, false, api.ErrArg)
		}
		has(t, s, all...)
	}
}

// 10.1: chunks of any bytes, none alike.
func TestPutAnyBytes(t *testing.T) {
	s := opened(t, 1000)
	var all []string
	for b := range 256 {
		all = append(all, string([]byte{byte(b)}))
	}
	all = append(all, "\x00\x00", "\xff\xfe\xfd", "\xc3\xa9", "a\x00", merkle.Digest("a"))
	for i, c := range all {
		put(t, s, c, true, api.OK)
		has(t, s, all[:i+1]...)
	}
	for _, c := range all {
		put(t, s, c, false, api.OK)
	}
	has(t, s, all...)
}

// 10.1: a chunk that is there is told, and kept once.
func TestPutThere(t *testing.T) {
	s := opened(t, 5)
	put(t, s, "abc", true, api.OK)
	put(t, s, "abc", false, api.OK)
	has(t, s, "abc")
	uses(t, s, "abc", 0)
	put(t, s, "de", true, api.OK)
	for _, c := range []string{"abc", "de"} {
		put(t, s, c, false, api.OK) // the quota is reached
	}
	has(t, s, "abc", "de")
}

// 10.1: just as many bytes as the quota, and one more.
func TestPutQuota(t *testing.T) {
	for _, quota := range []int{1, 2, 511, 512, 513, 1024} {
		s := opened(t, quota)
		var all []string
		for n := 0; n < quota; {
			c := strings.Repeat(string([]byte{byte('a' + len(all))}), min(512, quota-n))
			put(t, s, c, true, api.OK)
			all, n = append(all, c), n+len(c)
		}
		has(t, s, all...)
		put(t, s, "-", false, api.ErrQuota)
		put(t, s, strings.Repeat("-", 512), false, api.ErrQuota)
		has(t, s, all...)
	}
	s := opened(t, 10)
	put(t, s, "1234567", true, api.OK)
	put(t, s, "abcd", false, api.ErrQuota)
	has(t, s, "1234567")
	put(t, s, "abc", true, api.OK)
	put(t, s, "x", false, api.ErrQuota)
	has(t, s, "1234567", "abc")
}

// 10.1: a quota that is as great as a number may be: no sum wraps.
func TestGreatestQuota(t *testing.T) {
	s := opened(t, math.MaxInt)
	put(t, s, "a", true, api.OK)
	put(t, s, strings.Repeat("b", 512), true, api.OK)
	d, e := s.Add(strings.Repeat("c", 8192))
	if _, ok := s.File(d); e != api.OK || !ok {
		t.Errorf("Add: %d", int(e))
	}
}

// 10.1: which error it is where several apply.
func TestPutFirst(t *testing.T) {
	s := opened(t, 3)
	put(t, s, "abc", true, api.OK)
	put(t, s, "", false, api.ErrArg)
	put(t, s, strings.Repeat("x", 513), false, api.ErrArg)
	put(t, s, strings.Repeat("x", 512), false, api.ErrQuota)
	put(t, s, "abc", false, api.OK)
	has(t, s, "abc")
}

// 10.1: bytes that went make room again.
func TestRoomAgain(t *testing.T) {
	s := opened(t, 4)
	put(t, s, "abcd", true, api.OK)
	put(t, s, "e", false, api.ErrQuota)
	if n := s.Collect(); n != 1 {
		t.Fatalf("Collect(): %d", n)
	}
	f, e := s.Add("efgh")
	if e != api.OK {
		t.Fatal(int(e))
	}
	put(t, s, "i", false, api.ErrQuota)
	if !s.Forget(f) {
		t.Fatal("Forget: false")
	}
	put(t, s, "ijkl", true, api.OK)
	has(t, s, "ijkl")
	gone(t, s, "abcd", "efgh")
}

// 10.1: a digest that is there, one that is not, one of a chunk that went.
func TestGet(t *testing.T) {
	s := opened(t, 100)
	put(t, s, "abc", true, api.OK)
	f := know(t, s, manifestOf("abc", "def"), true, api.OK)
	has(t, s, "abc")
	gone(t, s, "def", "ab", "x", "")
	for _, d := range []string{"", "abc", f, strings.Repeat("\x00", 32), merkle.Digest("abc")[:31], merkle.Digest("abc") + "-", strings.Repeat("d", 1<<16)} {
		if c, ok := s.Get(d); c != "" || ok {
			t.Errorf("Get(%.40q): %q, %v", d, c, ok)
		}
	}
	if !s.Forget(f) {
		t.Error("Forget: false")
	}
	gone(t, s, "abc", "def")
	put(t, s, "abc", true, api.OK)
	has(t, s, "abc")
}

// 10.1: chunks that nothing uses go: none, some, all of them.
func TestCollect(t *testing.T) {
	collect := func(s *store.Store, want int) {
		t.Helper()
		if n := s.Collect(); n != want {
			t.Fatalf("Collect(): %d, not %d", n, want)
		}
	}
	s := opened(t, 100)
	collect(s, 0)
	for _, c := range []string{"a", "bb", "ccc"} {
		put(t, s, c, true, api.OK)
	}
	f := know(t, s, manifestOf("bb", "bb", "x", "y"), true, api.OK)
	collect(s, 2)
	has(t, s, "bb")
	gone(t, s, "a", "ccc")
	uses(t, s, "bb", 2)
	uses(t, s, "x", 1)
	files(t, s, f)
	collect(s, 0)
	put(t, s, "x", true, api.OK)
	collect(s, 0)
	has(t, s, "bb", "x")
	put(t, s, "dddd", true, api.OK)
	collect(s, 1)
	uses(t, s, "y", 1)
	if !s.Forget(f) {
		t.Fatal("Forget: false")
	}
	has(t, s)
	collect(s, 0)
	for _, c := range []string{"a", "bb", "ccc"} {
		put(t, s, c, true, api.OK)
	}
	collect(s, 3)
	has(t, s)
	collect(s, 0)
}

// 10.1: a chunk that was put ahead of the file that uses it goes with that file.
func TestCollectBehindForget(t *testing.T) {
	s := opened(t, 100)
	put(t, s, "a", true, api.OK)
	put(t, s, "b", true, api.OK)
	first := know(t, s, manifestOf("a", "b"), true, api.OK)
	second := know(t, s, manifestOf("b", "b"), true, api.OK)
	if n := s.Collect(); n != 0 {
		t.Fatalf("Collect(): %d", n)
	}
	s.Forget(first)
	has(t, s, "b")
	if n := s.Collect(); n != 0 {
		t.Fatalf("Collect(): %d", n)
	}
	s.Forget(second)
	has(t, s)
}

// 10.2: each chunk's bytes are counted once; digests rise.
func TestUsedAndChunks(t *testing.T) {
	s := opened(t, 100000)
	draw := drawer(2)
	var all []string
	for i := range 300 {
		c := drawn(draw, 3+draw(100))
		all = append(all, c)
		put(t, s, c, true, api.OK)
		put(t, s, all[draw(i+1)], false, api.OK)
	}
	has(t, s, all...)
	know(t, s, manifestOf(all[0], all[1], all[0]), true, api.OK)
	has(t, s, all...)
	if l := s.Chunks(); !slices.IsSorted(l) || len(slices.Compact(l)) != 300 {
		t.Errorf("Chunks(): %d", len(l))
	}
}

// R2: what Chunks answers is the caller's.
func TestChunksAreTheCallers(t *testing.T) {
	s := opened(t, 100)
	put(t, s, "a", true, api.OK)
	put(t, s, "b", true, api.OK)
	l := s.Chunks()
	l[0], l[1] = "other", "others"
	_ = append(l[:1], "more")
	has(t, s, "a", "b")
}

// 10.1, 10.2: a nil store answers ErrArg, or nothing.
func TestNilStore(t *testing.T) {
	var s *store.Store
	for _, c := range []string{"", "a", strings.Repeat("x", 513)} {
		put(t, s, c, false, api.ErrArg)
	}
	know(t, s, manifestOf("a"), false, api.ErrArg)
	know(t, s, api.Manifest{}, false, api.ErrArg)
	know(t, s, api.Manifest{Size: -1}, false, api.ErrArg)
	for _, x := range []string{"", "a", strings.Repeat("x", 8193)} {
		if d, e := s.Add(x); d != "" || e != api.ErrArg {
			t.Errorf("Add: %x, %d", d, int(e))
		}
	}
	for _, d := range []string{"", merkle.Digest("a"), merkle.File(api.Manifest{})} {
		if c, ok := s.Get(d); c != "" || ok {
			t.Errorf("Get: %q, %v", c, ok)
		}
		if m, ok := s.Manifest(d); m.Size != 0 || len(m.Chunks) != 0 || ok {
			t.Errorf("Manifest: %v, %v", m, ok)
		}
		if x, ok := s.File(d); x != "" || ok {
			t.Errorf("File: %q, %v", x, ok)
		}
		if s.Forget(d) || len(s.Lacks(d)) != 0 || s.Uses(d) != 0 {
			t.Errorf("a nil store has %x", d)
		}
	}
	if s.Collect() != 0 || s.Used() != 0 || len(s.Chunks()) != 0 {
		t.Error("a nil store has something")
	}
	for f := range s.Files() {
		t.Errorf("Files(): %x", f)
	}
}

// 10.1, 10.2: many chunks and many files are no matter of much time.
func TestMany(t *testing.T) {
	const many = 50000
	s := opened(t, math.MaxInt)
	for i := range many {
		c := fmt.Sprintf("%08d", i)
		put(t, s, c, true, api.OK)
		if i%2 == 0 {
			know(t, s, manifestOf(c, "all"), true, api.OK)
		}
	}
	if s.Used() != 8*many || len(s.Chunks()) != many || s.Uses(merkle.Digest("all")) != many/2 {
		t.Errorf("Used(): %d", s.Used())
	}
	if n := s.Collect(); n != many/2 {
		t.Errorf("Collect(): %d", n)
	}
	for f := range s.Files() {
		s.Forget(f)
	}
	has(t, s)
	files(t, s)
	uses(t, s, "all", 0)
}
