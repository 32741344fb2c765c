package store_test

import (
	"arbour/api"
	"arbour/chunk"
	"arbour/merkle"
	"arbour/store"
	"fmt"
	"math"
	"slices"
	"strings"
	"testing"
)

// fileOf is the digest of a file of bytes.
func fileOf(t *testing.T, x string) string {
	t.Helper()
	m, e := merkle.Of(x)
	if e != api.OK {
		t.Fatalf("merkle.Of: %d", int(e))
	}
	return merkle.File(m)
}

// added wants that a file is kept, and there whole: its digest.
func added(t *testing.T, s *store.Store, x string) string {
	t.Helper()
	want := fileOf(t, x)
	if d, e := s.Add(x); d != want || e != api.OK {
		t.Fatalf("Add of %d bytes: %x, %d; not %x", len(x), d, int(e), want)
	}
	whole(t, s, want, x)
	return want
}

// refused wants an error of Add, and that nothing is kept.
func refused(t *testing.T, s *store.Store, x string, want api.Errno) {
	t.Helper()
	was := stands(s)
	for range 2 {
		if d, e := s.Add(x); d != "" || e != want {
			t.Fatalf("Add of %d bytes: %x, %d; not %d", len(x), d, int(e), int(want))
		}
		if now := stands(s); now != was {
			t.Fatalf("refused, it stands otherwise: %s; not %s", now, was)
		}
	}
}

// whole wants that a file is there with all its bytes.
func whole(t *testing.T, s *store.Store, file, want string) {
	t.Helper()
	for range 2 {
		if x, ok := s.File(file); x != want || !ok {
			t.Fatalf("File: %d bytes, %v; not %d", len(x), ok, len(want))
		}
		lacks(t, s, file)
	}
}

// broken wants that a file's bytes are not there.
func broken(t *testing.T, s *store.Store, file string) {
	t.Helper()
	if x, ok := s.File(file); x != "" || ok {
		t.Fatalf("File: %q, %v", x, ok)
	}
}

// lacks wants which of a file's chunks are not there.
func lacks(t *testing.T, s *store.Store, file string, chunks ...string) {
	t.Helper()
	for range 2 {
		if l := s.Lacks(file); !slices.Equal(l, digestsOf(chunks...)) {
			t.Fatalf("Lacks: %x, not %x", l, digestsOf(chunks...))
		}
	}
}

// knows wants the manifest of a file.
func knows(t *testing.T, s *store.Store, file string, want api.Manifest) {
	t.Helper()
	for range 2 {
		if m, ok := s.Manifest(file); !sameManifest(m, want) || !ok {
			t.Fatalf("Manifest: %d bytes, %d chunks, %v; not %d, %d", m.Size, len(m.Chunks), ok, want.Size, len(want.Chunks))
		}
	}
}

// unknown wants that no such file is there.
func unknown(t *testing.T, s *store.Store, file string) {
	t.Helper()
	if m, ok := s.Manifest(file); m.Size != 0 || len(m.Chunks) != 0 || ok {
		t.Fatalf("Manifest: %d bytes, %d chunks, %v", m.Size, len(m.Chunks), ok)
	}
	broken(t, s, file)
	lacks(t, s, file)
	if s.Forget(file) {
		t.Fatal("Forget: true")
	}
}

// 10.1: manifests that may not be.
func TestKnowMayNotBe(t *testing.T) {
	s := opened(t, 100)
	put(t, s, "abc", true, api.OK)
	h := merkle.Digest("abc")
	for _, m := range []api.Manifest{
		{Size: 1}, {Size: -1}, {Size: math.MinInt}, {Size: math.MaxInt, Chunks: []string{h}},
		{Size: 0, Chunks: []string{h}}, {Size: 513, Chunks: []string{h}}, {Size: 1, Chunks: []string{h, h}},
		{Size: 3, Chunks: []string{h[:31]}}, {Size: 3, Chunks: []string{h + "-"}}, {Size: 6, Chunks: []string{h, ""}},
		{Size: 8193, Chunks: slices.Repeat([]string{h}, 17)}, {Size: 257, Chunks: slices.Repeat([]string{h}, 257)},
	} {
		if e := merkle.Check(m); e != api.ErrForm {
			t.Fatalf("merkle.Check: %d", int(e))
		}
		unknown(t, s, know(t, s, m, false, api.ErrForm))
	}
	files(t, s)
	has(t, s, "abc")
	uses(t, s, "abc", 0)
}

// 10.1: manifests at the edges of what may be.
func TestKnowMayBe(t *testing.T) {
	s := opened(t, 0)
	var all []string
	for _, c := range [][2]int{{0, 0}, {1, 1}, {512, 1}, {2, 2}, {1024, 2}, {8192, 16}, {256, 256}, {8192, 256}} {
		m := api.Manifest{Size: c[0]}
		for i := range c[1] {
			m.Chunks = append(m.Chunks, fmt.Sprintf("digest %025d", i))
		}
		f := know(t, s, m, true, api.OK)
		all = append(all, f)
		knows(t, s, f, m)
		know(t, s, m, false, api.OK)
		knows(t, s, f, m)
	}
	files(t, s, all...)
	if n := s.Uses(fmt.Sprintf("digest %025d", 0)); n != 7 {
		t.Errorf("Uses: %d", n)
	}
	if n := s.Uses(fmt.Sprintf("digest %025d", 16)); n != 2 {
		t.Errorf("Uses: %d", n)
	}
	has(t, s)
}

// 10.1: one that was not there, and the same again: its chunks are used by it once.
func TestKnowAgain(t *testing.T) {
	s := opened(t, 100)
	m := manifestOf("a", "b", "a")
	f := know(t, s, m, true, api.OK)
	for range 3 {
		knows(t, s, f, m)
		uses(t, s, "a", 2)
		uses(t, s, "b", 1)
		uses(t, s, "c", 0)
		files(t, s, f)
		know(t, s, m, false, api.OK)
	}
	s.Forget(f)
	unknown(t, s, f)
	know(t, s, m, true, api.OK)
	uses(t, s, "a", 2)
}

// 10.1: files that differ in their sizes or in the order of their chunks alone.
func TestKnowUnlike(t *testing.T) {
	s := opened(t, 100)
	a, b := manifestOf("a", "b"), manifestOf("b", "a")
	c := manifestOf("a", "b")
	c.Size++
	var all []string
	for _, m := range []api.Manifest{a, b, c} {
		all = append(all, know(t, s, m, true, api.OK))
	}
	files(t, s, slices.Clone(all)...)
	uses(t, s, "a", 3)
	uses(t, s, "b", 3)
	put(t, s, "a", true, api.OK)
	put(t, s, "b", true, api.OK)
	whole(t, s, all[0], "ab")
	whole(t, s, all[1], "ba")
	broken(t, s, all[2])
}

// 10.1 and R2: a manifest that is changed by its owner behind Know, and one that Manifest gave.
func TestManifestIsTheCallers(t *testing.T) {
	s := opened(t, 100)
	m, want := manifestOf("a", "b", "c"), manifestOf("a", "b", "c")
	f := know(t, s, m, true, api.OK)
	m.Chunks[0], m.Chunks[2] = merkle.Digest("x"), "other"
	_ = append(m.Chunks[:1], "more")
	knows(t, s, f, want)
	for range 2 {
		got, _ := s.Manifest(f)
		got.Size, got.Chunks[1] = 7, merkle.Digest("y")
		_ = append(got.Chunks[:2], "more")
		knows(t, s, f, want)
	}
	l := s.Lacks(f)
	l[0] = "other"
	lacks(t, s, f, "a", "b", "c")
	for _, c := range []string{"a", "b", "c"} {
		put(t, s, c, true, api.OK)
	}
	whole(t, s, f, "abc")
	if !s.Forget(f) {
		t.Error("Forget: false")
	}
	has(t, s)
	for _, c := range []string{"a", "b", "c", "x", "y"} {
		uses(t, s, c, 0)
	}
}

// 10.1: digests of no file that is there.
func TestManifestNone(t *testing.T) {
	s := opened(t, 100)
	f := added(t, s, "abc")
	for _, d := range []string{"", "abc", f[:31], f + "-", merkle.Digest("abc"), fileOf(t, "abd"), fileOf(t, ""), strings.Repeat("\x00", 32)} {
		unknown(t, s, d)
	}
	files(t, s, f)
	has(t, s, "abc")
}

// 10.1: chunks are used once less for each time that they stand in a manifest, and go when nothing uses them any more.
func TestForget(t *testing.T) {
	s := opened(t, 100)
	for _, c := range []string{"a", "b", "c", "d"} {
		put(t, s, c, true, api.OK)
	}
	first := know(t, s, manifestOf("a", "b", "a", "a"), true, api.OK)
	second := know(t, s, manifestOf("c", "a", "c"), true, api.OK)
	third := know(t, s, manifestOf("c", "x"), true, api.OK)
	for i, c := range []string{"a", "b", "c", "d", "x"} {
		uses(t, s, c, []int{4, 1, 3, 0, 1}[i])
	}
	if s.Forget("") || s.Forget(merkle.Digest("a")) || s.Forget(fileOf(t, "a")) {
		t.Fatal("Forget: true")
	}
	if !s.Forget(first) {
		t.Fatal("Forget: false")
	}
	unknown(t, s, first)
	has(t, s, "a", "c", "d")
	gone(t, s, "b")
	for i, c := range []string{"a", "b", "c", "d", "x"} {
		uses(t, s, c, []int{1, 0, 3, 0, 1}[i])
	}
	whole(t, s, second, "cac")
	files(t, s, second, third)
	if !s.Forget(second) {
		t.Fatal("Forget: false")
	}
	has(t, s, "c", "d")
	uses(t, s, "c", 1)
	if !s.Forget(third) || s.Forget(third) {
		t.Fatal("Forget")
	}
	files(t, s)
	has(t, s, "d")
	uses(t, s, "x", 0)
}

// 10.1: a file that is forgotten while its chunks are not there leaves nothing.
func TestForgetLacking(t *testing.T) {
	s := opened(t, 100)
	f := know(t, s, manifestOf("a", "b"), true, api.OK)
	put(t, s, "a", true, api.OK)
	if !s.Forget(f) {
		t.Fatal("Forget: false")
	}
	has(t, s)
	uses(t, s, "a", 0)
	put(t, s, "b", true, api.OK)
	has(t, s, "b")
	uses(t, s, "b", 0)
	if n := s.Collect(); n != 1 {
		t.Errorf("Collect(): %d", n)
	}
}

// 10.2: what a file lacks: all, some, none of its chunks; each once, in their order.
func TestLacks(t *testing.T) {
	s := opened(t, 100)
	m := manifestOf("d", "b", "a", "b", "c", "d", "a")
	lacks(t, s, merkle.File(m))
	f := know(t, s, m, true, api.OK)
	lacks(t, s, f, "d", "b", "a", "c")
	broken(t, s, f)
	for _, step := range []struct {
		put  string
		left []string
	}{{"b", []string{"d", "a", "c"}}, {"x", []string{"d", "a", "c"}}, {"d", []string{"a", "c"}}, {"a", []string{"c"}}} {
		put(t, s, step.put, true, api.OK)
		lacks(t, s, f, step.left...)
		broken(t, s, f)
	}
	put(t, s, "c", true, api.OK)
	whole(t, s, f, "dbabcda")
	lacks(t, s, merkle.Digest("c"))
	lacks(t, s, "")
	nothing := know(t, s, api.Manifest{}, true, api.OK)
	lacks(t, s, nothing)
}

// 10.2: a manifest of as many chunks as there may be, and one chunk as often.
func TestLacksMost(t *testing.T) {
	s := opened(t, 1000)
	var chunks []string
	for b := range 256 {
		chunks = append(chunks, string([]byte{byte(255 - b)}))
	}
	f := know(t, s, manifestOf(chunks...), true, api.OK)
	lacks(t, s, f, chunks...)
	same := know(t, s, manifestOf(slices.Repeat([]string{"zz"}, 256)...), true, api.OK)
	lacks(t, s, same, "zz")
	uses(t, s, "zz", 256)
	for _, c := range append(slices.Clone(chunks), "zz") {
		put(t, s, c, true, api.OK)
	}
	whole(t, s, f, strings.Join(chunks, ""))
	whole(t, s, same, strings.Repeat("z", 512))
	s.Forget(same)
	has(t, s, chunks...)
}

// 10.2: a file whose chunks make another number of bytes than its manifest says, and one whose chunks make more than a file may have.
func TestFileOtherSize(t *testing.T) {
	s := opened(t, 2000)
	put(t, s, "abc", true, api.OK)
	put(t, s, "de", true, api.OK)
	for _, size := range []int{2, 3, 4, 5, 6, 7, 1024} {
		m := manifestOf("abc", "de")
		m.Size = size
		f := know(t, s, m, true, api.OK)
		lacks(t, s, f)
		if size == 5 {
			whole(t, s, f, "abcde")
		} else {
			broken(t, s, f)
		}
	}
	long := strings.Repeat("x", 512)
	put(t, s, long, true, api.OK)
	for _, many := range []int{16, 17, 100, 256} {
		m := api.Manifest{Size: 8192, Chunks: slices.Repeat(digestsOf(long), many)}
		f := know(t, s, m, true, api.OK)
		if many == 16 {
			whole(t, s, f, strings.Repeat("x", 8192))
		} else {
			broken(t, s, f)
			lacks(t, s, f)
		}
	}
}

// 10.2: a file of chunks that were put one by one, in any order, ahead of its manifest or behind it.
func TestFileByChunks(t *testing.T) {
	draw := drawer(3)
	for range 30 {
		x := drawn(draw, draw(8193))
		m, _ := merkle.Of(x)
		s := opened(t, len(x))
		chunks := chunk.List(x)
		for i := range chunks {
			j := draw(i + 1)
			chunks[i], chunks[j] = chunks[j], chunks[i]
		}
		half := draw(len(chunks) + 1)
		for _, c := range chunks[:half] {
			put(t, s, c, true, api.OK)
		}
		f := know(t, s, m, true, api.OK)
		for _, c := range chunks[half:] {
			broken(t, s, f)
			put(t, s, c, true, api.OK)
		}
		whole(t, s, f, x)
		if added(t, s, x) != f {
			t.Fatal("Add tells another file")
		}
	}
}

// 10.2: a file of nothing.
func TestAddNothing(t *testing.T) {
	s := opened(t, 100)
	broken(t, s, fileOf(t, ""))
	f := added(t, s, "")
	knows(t, s, f, api.Manifest{})
	files(t, s, f)
	has(t, s)
	added(t, s, "")
	know(t, s, api.Manifest{}, false, api.OK)
	if !s.Forget(f) {
		t.Error("Forget: false")
	}
	unknown(t, s, f)
}

// 10.2: as many bytes as a file may have, and more.
func TestAddMost(t *testing.T) {
	for _, x := range []string{drawn(drawer(4), 8192), strings.Repeat("x", 8192), strings.Repeat(shortChunks(t, 1)[0], 256)} {
		s := opened(t, 1<<20)
		for _, more := range []string{"-", "--", x} {
			refused(t, s, x+more, api.ErrMany)
		}
		f := added(t, s, x)
		m, _ := merkle.Of(x)
		knows(t, s, f, m)
		for _, more := range []string{"-", "--", x} {
			refused(t, s, x+more, api.ErrMany)
		}
		files(t, s, f)
	}
	s := opened(t, 0)
	refused(t, s, strings.Repeat("x", 8193), api.ErrMany)
	refused(t, s, strings.Repeat("x", 1<<20), api.ErrMany)
	refused(t, s, strings.Repeat("x", 8192), api.ErrQuota)
}

// 10.2: files of many lengths: their chunks are kept as they are cut, each once.
func TestAdd(t *testing.T) {
	draw := drawer(5)
	s := opened(t, 1<<20)
	var all, chunks []string
	for _, n := range []int{1, 31, 32, 33, 100, 511, 512, 513, 1000, 4000, 8191, 8192} {
		x := drawn(draw, n)
		all = append(all, added(t, s, x))
		chunks = append(chunks, chunk.List(x)...)
		has(t, s, chunks...)
		files(t, s, slices.Clone(all)...)
		for _, c := range chunk.List(x) {
			uses(t, s, c, 1)
		}
	}
}

// 10.2: a file that is there already changes nothing, however full it is.
func TestAddAgain(t *testing.T) {
	x := strings.Repeat(longChunks(t, 1)[0], 3) + "end"
	s := opened(t, 515)
	f := added(t, s, x)
	was := stands(s)
	for range 3 {
		added(t, s, x)
		if now := stands(s); now != was {
			t.Fatalf("it stands otherwise: %s; not %s", now, was)
		}
	}
	files(t, s, f)
}

// The chapter's first example: two files of the same bytes are one, used once.
func TestSameBytes(t *testing.T) {
	s := opened(t, 100)
	f := added(t, s, "text")
	if added(t, s, "te"+"xt") != f {
		t.Fatal("two files")
	}
	files(t, s, f)
	has(t, s, "text")
	uses(t, s, "text", 1)
	if !s.Forget(f) || s.Forget(f) {
		t.Fatal("Forget")
	}
	has(t, s)
}

// 10.2: a file whose manifest is known and whose chunks lack: Add brings them, and nothing is used once more.
func TestAddKnown(t *testing.T) {
	l := shortChunks(t, 3)
	x := l[0] + l[1] + l[0] + l[2]
	m, _ := merkle.Of(x)
	s := opened(t, 96)
	f := know(t, s, m, true, api.OK)
	put(t, s, l[1], true, api.OK)
	lacks(t, s, f, l[0], l[2])
	if added(t, s, x) != f {
		t.Fatal("another file")
	}
	has(t, s, l...)
	for i, c := range l {
		uses(t, s, c, []int{2, 1, 1}[i])
	}
	files(t, s, f)
	s.Forget(f)
	has(t, s)
}

// 10.2: just the quota, and one byte too many: then nothing is kept.
func TestAddQuota(t *testing.T) {
	draw := drawer(6)
	for _, n := range []int{1, 2, 32, 33, 511, 512, 513, 3000, 8192} {
		x := drawn(draw, n)
		refused(t, opened(t, n-1), x, api.ErrQuota)
		refused(t, opened(t, 0), x, api.ErrQuota)
		s := opened(t, n)
		f := added(t, s, x)
		refused(t, s, "-", api.ErrQuota)
		refused(t, s, x[:n/2]+"more", api.ErrQuota)
		files(t, s, f)
	}
}

// 10.2: chunks that are there already or stand more than once are held against the quota once, or not at all.
func TestAddQuotaTogether(t *testing.T) {
	l, long := shortChunks(t, 4), longChunks(t, 2)
	// More than once in the file.
	x := strings.Repeat(long[0], 15) + "end"
	refused(t, opened(t, 514), x, api.ErrQuota)
	added(t, opened(t, 515), x)
	x = l[0] + l[1] + l[0] + l[1] + l[0]
	refused(t, opened(t, 63), x, api.ErrQuota)
	added(t, opened(t, 64), x)
	// There already: put, or by another file.
	s := opened(t, 100)
	put(t, s, l[0], true, api.OK)
	first := added(t, s, l[0]+l[1])
	refused(t, s, l[0]+l[2]+l[1]+"12345", api.ErrQuota)
	gone(t, s, l[2], "12345")
	second := added(t, s, l[0]+l[2]+l[1]+"1234")
	has(t, s, l[0], l[1], l[2], "1234")
	uses(t, s, l[0], 2)
	uses(t, s, "1234", 1)
	// Full, and nothing comes that is not there.
	third := added(t, s, l[2]+l[0]+l[0]+"1234")
	refused(t, s, l[3], api.ErrQuota)
	refused(t, s, "1", api.ErrQuota)
	added(t, s, "")
	for _, f := range []string{first, second, third} {
		s.Forget(f)
	}
	has(t, s)
}

// 10.2: files that have chunks together: these are kept once, and when one is forgotten the other one is whole.
func TestTogether(t *testing.T) {
	l := shortChunks(t, 4)
	x, y := l[0]+l[1]+l[1]+l[2], l[1]+l[2]+l[3]
	s := opened(t, 1000)
	a, b := added(t, s, x), added(t, s, y)
	has(t, s, l...)
	for i, c := range l {
		uses(t, s, c, []int{1, 3, 2, 1}[i])
	}
	if !s.Forget(a) {
		t.Fatal("Forget: false")
	}
	whole(t, s, b, y)
	has(t, s, l[1:]...)
	unknown(t, s, a)
	added(t, s, x)
	if !s.Forget(b) {
		t.Fatal("Forget: false")
	}
	whole(t, s, a, x)
	has(t, s, l[:3]...)
	files(t, s, a)
}

// 10.2: a changed file has most of its chunks together with the one that it was.
func TestChanged(t *testing.T) {
	x := drawn(drawer(7), 8000)
	s := opened(t, 10000)
	a := added(t, s, x)
	was := s.Used()
	b := added(t, s, x[:4000]+"-"+x[4000:])
	if more := s.Used() - was; more < 1 || more > 2*512 {
		t.Errorf("%d bytes more", more)
	}
	s.Forget(a)
	whole(t, s, b, x[:4000]+"-"+x[4000:])
	if s.Used() != 8001 {
		t.Errorf("Used(): %d", s.Used())
	}
}

// 10.2: files rise, and who goes over them may stop at any.
func TestFiles(t *testing.T) {
	s := opened(t, 1000)
	var want []string
	for i := range 50 {
		want = append(want, added(t, s, fmt.Sprint("file ", i)))
		files(t, s, slices.Clone(want)...)
	}
	slices.Sort(want)
	all := s.Files()
	for stop := range want {
		var got []string
		for f := range all {
			got = append(got, f)
			if len(got) == stop+1 {
				break
			}
		}
		if !slices.Equal(got, want[:stop+1]) {
			t.Fatalf("stopped behind %d: %d files", stop+1, len(got))
		}
		calls := 0
		all(func(string) bool {
			calls++
			return calls <= stop
		})
		if calls != stop+1 {
			t.Fatalf("refused at %d: %d calls", stop+1, calls)
		}
	}
	for f := range all {
		if inner := slices.Collect(all); !slices.Equal(inner, want) {
			t.Fatalf("within, at %x: %d files", f, len(inner))
		}
	}
}

// R2: what Files answered is the caller's: files that come and go later, on the way, too, change nothing in it.
func TestFilesWhileTheyChange(t *testing.T) {
	s := opened(t, 10000)
	var want []string
	for i := range 20 {
		want = append(want, added(t, s, fmt.Sprint("file ", i)))
	}
	slices.Sort(want)
	all, n := s.Files(), 0
	for f := range all {
		if f != want[n] {
			t.Fatalf("file %d: %x, not %x", n, f, want[n])
		}
		if !s.Forget(f) {
			t.Fatal("Forget: false")
		}
		added(t, s, fmt.Sprint("another one ", n))
		n++
	}
	if got := slices.Collect(all); n != 20 || !slices.Equal(got, want) {
		t.Errorf("%d files, and then %d", n, len(got))
	}
	now := slices.Collect(s.Files())
	if len(now) != 20 || slices.ContainsFunc(now, func(f string) bool { return slices.Contains(want, f) }) {
		t.Errorf("%d files now", len(now))
	}
}
