package store_test

import (
	"arbour/api"
	"arbour/chunk"
	"arbour/merkle"
	"arbour/store"
	"slices"
	"strings"
	"testing"
)

// kept is a chunk that is there.
type kept struct{ digest, bytes string }

// known is a file that is there.
type known struct {
	digest string
	api.Manifest
}

// model is a store as the chapter tells it, without any haste: what is used, and how often, is counted anew whenever it is asked for.
type model struct {
	quota  int
	chunks []kept
	files  []known
}

func (m *model) used() int {
	n := 0
	for _, c := range m.chunks {
		n += len(c.bytes)
	}
	return n
}

// chunk is the chunk of a digest; none, if it is not there.
func (m *model) chunk(digest string) string {
	for _, c := range m.chunks {
		if c.digest == digest {
			return c.bytes
		}
	}
	return ""
}

func (m *model) uses(digest string) int {
	n := 0
	for _, f := range m.files {
		for _, d := range f.Chunks {
			if d == digest {
				n++
			}
		}
	}
	return n
}

func (m *model) put(c string) (string, bool, api.Errno) {
	if len(c) == 0 || len(c) > 512 {
		return "", false, api.ErrArg
	}
	digest := merkle.Digest(c)
	if m.chunk(digest) != "" {
		return digest, false, api.OK
	}
	if m.used()+len(c) > m.quota {
		return "", false, api.ErrQuota
	}
	m.chunks = append(m.chunks, kept{digest, c})
	return digest, true, api.OK
}

// at is the place of a file; below 0, if it is not there.
func (m *model) at(file string) int {
	return slices.IndexFunc(m.files, func(f known) bool { return f.digest == file })
}

func (m *model) know(f api.Manifest) (bool, api.Errno) {
	if e := merkle.Check(f); e != api.OK {
		return false, e
	}
	digest := merkle.File(f)
	if m.at(digest) >= 0 {
		return false, api.OK
	}
	m.files = append(m.files, known{digest, f})
	return true, api.OK
}

func (m *model) forget(file string) bool {
	i := m.at(file)
	if i < 0 {
		return false
	}
	was := m.files[i].Chunks
	m.files = slices.Delete(m.files, i, i+1)
	m.chunks = slices.DeleteFunc(m.chunks, func(c kept) bool {
		return slices.Contains(was, c.digest) && m.uses(c.digest) == 0
	})
	return true
}

func (m *model) collect() int {
	n := len(m.chunks)
	m.chunks = slices.DeleteFunc(m.chunks, func(c kept) bool { return m.uses(c.digest) == 0 })
	return n - len(m.chunks)
}

func (m *model) lacks(file string) []string {
	var l []string
	if i := m.at(file); i >= 0 {
		for _, d := range m.files[i].Chunks {
			if m.chunk(d) == "" && !slices.Contains(l, d) {
				l = append(l, d)
			}
		}
	}
	return l
}

func (m *model) file(file string) (string, bool) {
	i := m.at(file)
	if i < 0 || len(m.lacks(file)) > 0 {
		return "", false
	}
	t := ""
	for _, d := range m.files[i].Chunks {
		t += m.chunk(d)
	}
	if len(t) != m.files[i].Size {
		return "", false
	}
	return t, true
}

func (m *model) add(t string) (string, api.Errno) {
	if len(t) > 8192 {
		return "", api.ErrMany
	}
	was := slices.Clone(m.chunks)
	for _, c := range chunk.List(t) {
		if _, _, e := m.put(c); e != api.OK {
			m.chunks = was
			return "", e
		}
	}
	f, _ := merkle.Of(t)
	m.know(f)
	return merkle.File(f), api.OK
}

// like wants that a store stands as the model, at these digests, too.
func (m *model) like(t *testing.T, s *store.Store, digests []string) {
	t.Helper()
	if s.Used() != m.used() || s.Used() > m.quota {
		t.Fatalf("Used(): %d, not %d", s.Used(), m.used())
	}
	var chunks, files []string
	for _, c := range m.chunks {
		chunks = append(chunks, c.digest)
	}
	for _, f := range m.files {
		files = append(files, f.digest)
	}
	slices.Sort(chunks)
	slices.Sort(files)
	if got := s.Chunks(); !slices.Equal(got, chunks) {
		t.Fatalf("Chunks(): %x, not %x", got, chunks)
	}
	if got := slices.Collect(s.Files()); !slices.Equal(got, files) {
		t.Fatalf("Files(): %x, not %x", got, files)
	}
	for _, d := range digests {
		if n := s.Uses(d); n != m.uses(d) {
			t.Fatalf("Uses: %d, not %d", n, m.uses(d))
		}
		if c, ok := s.Get(d); c != m.chunk(d) || ok != (m.chunk(d) != "") {
			t.Fatalf("Get: %q, %v; not %q", c, ok, m.chunk(d))
		}
	}
	for _, f := range append(files, digests...) {
		m.likeFile(t, s, f)
	}
}

// likeFile wants that a store tells a file as the model.
func (m *model) likeFile(t *testing.T, s *store.Store, file string) {
	t.Helper()
	want := api.Manifest{}
	if i := m.at(file); i >= 0 {
		want = m.files[i].Manifest
	}
	if got, ok := s.Manifest(file); !sameManifest(got, want) || ok != (m.at(file) >= 0) {
		t.Fatalf("Manifest: %d bytes, %d chunks, %v", got.Size, len(got.Chunks), ok)
	}
	if got := s.Lacks(file); !slices.Equal(got, m.lacks(file)) {
		t.Fatalf("Lacks: %x, not %x", got, m.lacks(file))
	}
	got, ok := s.File(file)
	if text, whole := m.file(file); got != text || ok != whole {
		t.Fatalf("File: %d bytes, %v; not %d, %v", len(got), ok, len(text), whole)
	}
}

// walk is a store beside its model, with what may come to them.
type walk struct {
	s       *store.Store
	m       *model
	chunks  []string
	texts   []string
	digests []string
}

// newWalk is a walk in which few chunks come again and again.
func newWalk(t *testing.T, quota int) *walk {
	t.Helper()
	long, short := longChunks(t, 3), shortChunks(t, 4)
	w := &walk{s: opened(t, quota), m: &model{quota: quota}}
	w.chunks = append([]string{"", "a", "b", "cd", "efg", long[0] + "-"}, slices.Concat(long, short)...)
	w.texts = []string{
		"", "a", "b", "cd", long[0], long[0] + "a", long[0] + long[0] + "a", long[1] + long[0],
		short[0] + short[1] + short[0], short[1] + short[0] + "cd", short[2] + short[3] + short[1] + "efg", short[0] + short[0] + short[0],
		strings.Repeat(short[3], 256), strings.Repeat(short[3], 256) + "a", strings.Repeat(long[2], 16),
	}
	for _, c := range w.chunks {
		w.digests = append(w.digests, merkle.Digest(c))
	}
	for _, x := range w.texts {
		if m, e := merkle.Of(x); e == api.OK {
			w.digests = append(w.digests, merkle.File(m))
		}
	}
	return w
}

// drawnManifest is one of a file, of some of the chunks with their bytes or so many, or one that may not be.
func (w *walk) drawnManifest(draw func(int) int) api.Manifest {
	if draw(3) == 0 {
		m, _ := merkle.Of(w.texts[draw(len(w.texts))])
		return m
	}
	m := api.Manifest{}
	for range draw(5) {
		at := draw(len(w.chunks))
		m.Size += len(w.chunks[at])
		m.Chunks = append(m.Chunks, w.digests[at])
	}
	if draw(3) == 0 {
		m.Size += draw(5) - 2
	}
	if draw(12) == 0 && len(m.Chunks) > 0 {
		m.Chunks[draw(len(m.Chunks))] += "-"
	}
	return m
}

// anyFile is the digest of a file that is there, or of none.
func (w *walk) anyFile(draw func(int) int) string {
	if n := len(w.m.files); n > 0 && draw(3) > 0 {
		return w.m.files[draw(n)].digest
	}
	return w.digests[draw(len(w.digests))]
}

// step does something to both.
func (w *walk) step(t *testing.T, draw func(int) int) {
	t.Helper()
	switch draw(12) {
	case 0, 1, 2:
		c := w.chunks[draw(len(w.chunks))]
		d, is, e := w.s.Put(c)
		if wantD, want, wrong := w.m.put(c); d != wantD || is != want || e != wrong {
			t.Fatalf("Put of %d bytes: %x, %v, %d; not %x, %v, %d", len(c), d, is, int(e), wantD, want, int(wrong))
		}
	case 3, 4, 5:
		f := w.drawnManifest(draw)
		is, e := w.s.Know(f)
		if want, wrong := w.m.know(f); is != want || e != wrong {
			t.Fatalf("Know: %v, %d; not %v, %d", is, int(e), want, int(wrong))
		}
	case 6, 7, 8:
		x := w.texts[draw(len(w.texts))]
		d, e := w.s.Add(x)
		if want, wrong := w.m.add(x); d != want || e != wrong {
			t.Fatalf("Add of %d bytes: %x, %d; not %x, %d", len(x), d, int(e), want, int(wrong))
		}
	case 9, 10:
		f := w.anyFile(draw)
		if is, want := w.s.Forget(f), w.m.forget(f); is != want {
			t.Fatalf("Forget: %v", is)
		}
	case 11:
		if draw(4) == 0 {
			if n, want := w.s.Collect(), w.m.collect(); n != want {
				t.Fatalf("Collect(): %d, not %d", n, want)
			}
		}
	}
}

// 10.1, 10.2: whatever is done, in whatever order, a store stands as the chapter tells.
func TestModel(t *testing.T) {
	for seed, quota := range []int{0, 1, 3, 40, 100, 600, 1100, 1600, 1800, 9000, 20000} {
		for more := range 2 {
			draw, w := drawer(uint64(2*seed+more)), newWalk(t, quota)
			for range 250 {
				w.step(t, draw)
				w.m.like(t, w.s, w.digests)
			}
		}
	}
}

// R4: the same calls in the same order answer the same.
func TestSameAgain(t *testing.T) {
	var first string
	for range 8 {
		draw, w := drawer(99), newWalk(t, 2000)
		for range 150 {
			w.step(t, draw)
		}
		if first == "" {
			first = stands(w.s)
		}
		if now := stands(w.s); now != first || len(w.m.chunks) < 3 || len(w.m.files) < 3 {
			t.Fatalf("another time it stands so: %s; not %s", now, first)
		}
	}
}
