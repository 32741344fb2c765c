package book_test

import (
	"arbour/api"
	"arbour/book"
	"arbour/chunk"
	"arbour/dag"
	"arbour/disk"
	"arbour/image"
	"arbour/mac"
	"arbour/mater"
	"arbour/merkle"
	"arbour/move"
	"arbour/name"
	"arbour/node"
	"arbour/wal"
	"arbour/wire"
	"maps"
	"reflect"
	"slices"
	"strings"
	"testing"
)

const (
	segmentBytes = 4096
	nodesMost    = 4000
	fileMost     = 8192
	parentsMost  = 8
	countMost    = 1<<48 - 1
)

// drawer draws numbers below n, the same ones at each run.
func drawer(seed uint64) func(n int) int {
	return func(n int) int {
		seed = seed*6364136223846793005 + 1442695040888963407
		return int(seed >> 33 % uint64(n))
	}
}

// told wants the error that a call was answered with.
func told(t *testing.T, what string, got, want api.Errno) {
	t.Helper()
	if got != want {
		t.Fatalf("%s: %d, not %d", what, int(got), int(want))
	}
}

// keys is a ring of so many keys, the same ones each time.
func keys(n int) *mac.Ring {
	ring, e := mac.NewRing("seed", n)
	if e != api.OK {
		panic("no ring")
	}
	return ring
}

// digest is a file's digest.
func digest(s string) string {
	m, e := merkle.Of(s)
	if e != api.OK {
		panic("too many bytes")
	}
	return merkle.File(m)
}

// model is a book by the chapter's words: its records, from which all but its nodes is made anew each time it is asked for.
type model struct {
	ring      *mac.Ring
	me, quota int
	dag       *dag.Dag
	log       []string
}

// modelOf is the model of records that may be.
func modelOf(ring *mac.Ring, me, quota int, log []string) *model {
	g, e := dag.New(ring)
	if e != api.OK {
		panic("no dag")
	}
	m := &model{ring, me, quota, g, slices.Clone(log)}
	for _, r := range log {
		if r[0] == 'N' {
			if _, e := g.Add(r[1:]); e != api.OK {
				panic("a node that may not be")
			}
		}
	}
	return m
}

// things is the things of all nodes.
func (m *model) things() *move.Tree {
	tree := move.New()
	for _, h := range m.dag.Order() {
		n, _ := m.dag.Get(h)
		tree.Add(api.Entry{Op: n.Op, Hash: h})
	}
	return tree
}

// kept is the bytes of a model's records: chunks by their digests, and of files what stands at their places.
type kept struct {
	chunks map[string]string
	sizes  map[string]int
	places map[string][]string
}

func (m *model) kept() kept {
	k := kept{map[string]string{}, map[string]int{}, map[string][]string{}}
	for _, r := range m.log {
		switch r[0] {
		case 'F':
			s := r[1:]
			var l []string
			for _, c := range chunk.List(s) {
				k.chunks[merkle.Digest(c)] = c
				l = append(l, merkle.Digest(c))
			}
			k.sizes[digest(s)], k.places[digest(s)] = len(s), l
		case 'S':
			x := merkle.Take(wire.NewReader(r[1:]))
			k.chunks[merkle.Digest(x.Chunk)] = x.Chunk
			if k.places[x.Digest] == nil {
				k.sizes[x.Digest], k.places[x.Digest] = x.Size, make([]string, x.Many)
			}
			k.places[x.Digest][x.At] = merkle.Digest(x.Chunk)
		}
	}
	return k
}

// used is how many bytes all chunks have.
func (k kept) used() int {
	n := 0
	for _, c := range k.chunks {
		n += len(c)
	}
	return n
}

// files is the files whose chunks are all there, rising.
func (k kept) files() []string {
	var l []string
	for _, f := range slices.Sorted(maps.Keys(k.places)) {
		if !slices.Contains(k.places[f], "") {
			l = append(l, f)
		}
	}
	return l
}

// bytes is a file's bytes, if they are there, and have its digest.
func (k kept) bytes(file string) (string, bool) {
	if file == "" || file == digest("") {
		return "", true
	}
	l, is := k.places[file]
	if !is || slices.Contains(l, "") {
		return "", false
	}
	s := ""
	for _, h := range l {
		s += k.chunks[h]
	}
	if len(s) > fileMost || digest(s) != file {
		return "", false
	}
	return s, true
}

// next is the first place of a file whose chunk is not there.
func (k kept) next(file string) int { return max(0, slices.Index(k.places[file], "")) }

// shares is the shares of a file from a place on.
func (k kept) shares(file string, from, most int) []api.Share {
	s, is := k.bytes(file)
	var l []api.Share
	for at := range len(chunk.List(s)) {
		if is && at >= from && len(l) < most {
			x, _ := merkle.Show(s, at)
			l = append(l, x)
		}
	}
	return l
}

// wanted is the digests that things have.
func (m *model) wanted() map[string]bool {
	all := map[string]bool{}
	for x := range m.things().All() {
		all[x.Digest] = x.Digest != ""
	}
	return all
}

func (m *model) lacks() []string {
	k := m.kept()
	var l []string
	for f, is := range m.wanted() {
		if _, there := k.bytes(f); is && !there {
			l = append(l, f)
		}
	}
	slices.Sort(l)
	return l
}

func (m *model) image() []api.File { return image.Of(m.things()) }

// at is what stands at a path.
func (m *model) at(path string) (api.File, bool) {
	for _, f := range m.image() {
		if f.Path == path {
			return f, true
		}
	}
	return api.File{}, false
}

// accept is Accept of a book that is not dead.
func (m *model) accept(s string) (int, api.Errno) {
	if m.dag.Len() >= nodesMost {
		return 0, api.ErrMany
	}
	taken, e := m.dag.Add(s)
	for _, h := range taken {
		n, _ := m.dag.Get(h)
		bytes, _ := node.Encode(n)
		m.log = append(m.log, "N"+bytes)
	}
	return len(taken), e
}

// own is an operation of its own.
func (m *model) own(o api.Op) api.Errno {
	if m.dag.Len() >= nodesMost {
		return api.ErrMany
	}
	var count uint64
	for _, h := range m.dag.Order() {
		n, _ := m.dag.Get(h)
		count = max(count, n.Op.At.Count)
	}
	if count == countMost {
		return api.ErrStamp
	}
	o.At = api.Stamp{Count: count + 1, Who: m.me}
	if o.Kind == api.OpCreate {
		o.Thing = (count+1)*16 + uint64(m.me)
	}
	heads := m.dag.Heads()
	if len(heads) > parentsMost {
		heads = heads[:parentsMost]
	}
	n, e := node.Sign(m.ring, api.Node{Author: m.me, Parents: heads, Op: o})
	if e != api.OK {
		return e
	}
	s, _ := node.Encode(n)
	_, e = m.accept(s)
	return e
}

// room is the folder and the name of something that is to come.
func (m *model) room(path string) (uint64, string, api.Errno) {
	if !name.Path(path) {
		return 0, "", api.ErrArg
	}
	if _, is := m.at(path); is {
		return 0, "", api.ErrThere
	}
	i := strings.LastIndex(path, "/")
	if i < 0 {
		return 0, path, api.OK
	}
	if f, is := m.at(path[:i]); is && f.Dir {
		return f.ID, path[i+1:], api.OK
	}
	return 0, "", api.ErrNone
}

func (m *model) create(path string, dir bool) api.Errno {
	folder, last, e := m.room(path)
	if e != api.OK {
		return e
	}
	return m.own(api.Op{Kind: api.OpCreate, Parent: folder, Name: last, Dir: dir})
}

func (m *model) move(from, to string) api.Errno {
	f, is := m.at(from)
	if !is {
		return api.ErrNone
	}
	folder, last, e := m.room(to)
	if e != api.OK {
		return e
	}
	if strings.HasPrefix(to, from+"/") {
		return api.ErrArg
	}
	return m.own(api.Op{Kind: api.OpMove, Thing: f.ID, Parent: folder, Name: last})
}

func (m *model) delete(path string) api.Errno {
	f, is := m.at(path)
	if !is {
		return api.ErrNone
	}
	return m.own(api.Op{Kind: api.OpDelete, Thing: f.ID})
}

func (m *model) write(path, s string) api.Errno {
	f, is := m.at(path)
	switch {
	case !is:
		return api.ErrNone
	case f.Dir, len(s) > fileMost:
		return api.ErrArg
	}
	after := *m
	after.log = append(slices.Clone(m.log), "F"+s)
	if more := after.kept().used(); more > m.quota && more > m.kept().used() {
		return api.ErrQuota
	}
	m.log = after.log
	return m.own(api.Op{Kind: api.OpContent, Thing: f.ID, Digest: digest(s), Size: len(s)})
}

func (m *model) read(path string) (string, api.Errno) {
	f, is := m.at(path)
	if !is || f.Dir {
		return "", api.ErrNone
	}
	s, is := m.kept().bytes(f.Digest)
	if !is {
		return "", api.ErrBytes
	}
	return s, api.OK
}

func (m *model) share(x api.Share) (bool, api.Errno) {
	if !m.wanted()[x.Digest] {
		return false, api.ErrNone
	}
	if e := merkle.Verify(x); e != api.OK {
		return false, e
	}
	k := m.kept()
	_, has := k.chunks[merkle.Digest(x.Chunk)]
	if !has && k.used()+len(x.Chunk) > m.quota {
		return false, api.ErrQuota
	}
	if has && k.places[x.Digest] != nil && k.places[x.Digest][x.At] != "" {
		return false, api.OK
	}
	w := wire.NewWriter()
	merkle.Put(w, x)
	m.log = append(m.log, "S"+w.All())
	return true, api.OK
}

func (m *model) compact() int {
	k, wanted := m.kept(), m.wanted()
	var log []string
	for _, h := range m.dag.Order() {
		n, _ := m.dag.Get(h)
		s, _ := node.Encode(n)
		log = append(log, "N"+s)
	}
	for _, f := range k.files() {
		if s, is := k.bytes(f); is && wanted[f] {
			log = append(log, "F"+s)
		}
	}
	m.log = log
	return len(log)
}

// view is all that a book tells.
type view struct {
	Image                 []api.File
	Status                api.Status
	Lacks, Files, Chunks  []string
	Order, Heads, Missing []string
	Log                   []api.Entry
	Used                  int
	Bytes, Texts          map[string]string
	Next                  map[string]int
	Shares                map[string][]api.Share
	Errors                map[string]api.Errno
	Dead                  bool
	Why                   api.Errno
}

// list is a list; an empty one is the same as none.
func list[T any](l []T) []T { return append([]T(nil), l...) }

// seen is what a book tells, asked for some files' digests.
func seen(b *book.Book, asked []string) view {
	v := view{
		Image: list(b.Image()), Status: b.Status(), Lacks: list(b.Lacks()),
		Files: slices.Collect(b.Store().Files()), Chunks: list(b.Store().Chunks()), Used: b.Store().Used(),
		Order: list(b.Dag().Order()), Heads: list(b.Dag().Heads()), Missing: list(b.Dag().Missing()), Log: list(b.Tree().Log()),
		Bytes: map[string]string{}, Texts: map[string]string{}, Next: map[string]int{}, Shares: map[string][]api.Share{}, Errors: map[string]api.Errno{},
		Dead: b.Dead(), Why: b.Why(),
	}
	for _, f := range asked {
		if s, is := b.Bytes(f); is {
			v.Bytes[f] = s
		}
		v.Next[f], v.Shares[f] = b.Next(f), list(b.Shares(f, 1, 2))
	}
	for _, f := range v.Image {
		v.Texts[f.Path], v.Errors[f.Path] = b.Read(f.Path)
	}
	return v
}

// seen is what a model's book tells, on a disk.
func (m *model) seen(d *disk.Disk, asked []string) view {
	k, tree := m.kept(), m.things()
	v := view{
		Image: list(m.image()), Lacks: m.lacks(),
		Files: k.files(), Chunks: slices.Sorted(maps.Keys(k.chunks)), Used: k.used(),
		Order: list(m.dag.Order()), Heads: list(m.dag.Heads()), Missing: list(m.dag.Missing()), Log: list(tree.Log()),
		Bytes: map[string]string{}, Texts: map[string]string{}, Next: map[string]int{}, Shares: map[string][]api.Share{}, Errors: map[string]api.Errno{},
	}
	v.Status = api.Status{Nodes: len(v.Order), Waits: m.dag.Waits(), Lacks: len(v.Lacks), Done: mater.Stands(d, v.Image, k.bytes)}
	for _, x := range v.Log {
		v.Status.Count = max(v.Status.Count, x.Op.At.Count)
	}
	for _, f := range asked {
		if s, is := k.bytes(f); is {
			v.Bytes[f] = s
		}
		v.Next[f], v.Shares[f] = k.next(f), k.shares(f, 1, 2)
	}
	for _, f := range v.Image {
		v.Texts[f.Path], v.Errors[f.Path] = m.read(f.Path)
	}
	return v
}

// alike wants that two views are the same.
func alike(t *testing.T, got, want view) {
	t.Helper()
	if reflect.DeepEqual(got, want) {
		return
	}
	g, w := reflect.ValueOf(got), reflect.ValueOf(want)
	for i := range g.NumField() {
		if !reflect.DeepEqual(g.Field(i).Interface(), w.Field(i).Interface()) {
			t.Errorf("%s: %+v, not %+v", g.Type().Field(i).Name, g.Field(i), w.Field(i))
		}
	}
	t.FailNow()
}

// both is a book on a disk, and its model.
type both struct {
	d     *disk.Disk
	b     *book.Book
	m     *model
	asked []string // files that it is asked for at each look
}

// begun is a book on a disk without files.
func begun(t *testing.T, ring *mac.Ring, me, quota int) *both {
	t.Helper()
	d := disk.New()
	b, e := book.Open(d, ring, me, quota)
	told(t, "Open", e, api.OK)
	x := &both{d: d, b: b, m: modelOf(ring, me, quota, nil)}
	x.same(t)
	return x
}

// records is what the log on a disk has.
func records(t *testing.T, d *disk.Disk) []string {
	t.Helper()
	l, _, e := wal.Open(d.Clone(), segmentBytes)
	told(t, "wal.Open", e, api.OK)
	return l.All()
}

// same wants that a book tells what its model tells, that its log is the model's, and all of it sure, and that it is the same, but for nodes that wait, when it stands up again, behind a loss of power, and once more.
func (x *both) same(t *testing.T) {
	t.Helper()
	asked := append([]string{"", digest(""), "none"}, x.asked...)
	for f := range x.m.wanted() {
		asked = append(asked, f)
	}
	alike(t, seen(x.b, asked), x.m.seen(x.d, asked))
	if l := records(t, x.d); !slices.Equal(l, x.m.log) {
		t.Fatalf("log: %q, not %q", l, x.m.log)
	}
	c := x.d.Clone()
	c.Plan(nil)
	c.Room(-1)
	c.Crash(0, 0)
	c.Up()
	want := modelOf(x.m.ring, x.m.me, x.m.quota, x.m.log)
	for range 2 {
		b, e := book.Open(c, x.m.ring, x.m.me, x.m.quota)
		told(t, "Open", e, api.OK)
		alike(t, seen(b, asked), want.seen(c, asked))
	}
}

// fall takes the power, and lets the book stand up again.
func (x *both) fall(t *testing.T) {
	t.Helper()
	x.d.Crash(0, 0)
	x.d.Up()
	b, e := book.Open(x.d, x.m.ring, x.m.me, x.m.quota)
	told(t, "Open", e, api.OK)
	x.b, x.m = b, modelOf(x.m.ring, x.m.me, x.m.quota, x.m.log)
}

// answer wants that a book and its model answered the same.
func answer[T comparable](t *testing.T, what string, got T, e api.Errno, want T, f api.Errno) {
	t.Helper()
	if got != want || e != f {
		t.Fatalf("%s: %v, %d; not %v, %d", what, got, int(e), want, int(f))
	}
}

// The calls of both: the error that they are to answer, and all else as the model has it.

func (x *both) accept(t *testing.T, s string, want api.Errno) int {
	t.Helper()
	n, e := x.b.Accept(s)
	k, f := x.m.accept(s)
	answer(t, "Accept", n, e, k, f)
	told(t, "Accept", e, want)
	return n
}

func (x *both) create(t *testing.T, path string, dir bool, want api.Errno) {
	t.Helper()
	e := x.b.Create(path, dir)
	answer(t, "Create "+path, 0, e, 0, x.m.create(path, dir))
	told(t, "Create "+path, e, want)
}

func (x *both) move(t *testing.T, from, to string, want api.Errno) {
	t.Helper()
	e := x.b.Move(from, to)
	answer(t, "Move "+from+" "+to, 0, e, 0, x.m.move(from, to))
	told(t, "Move "+from+" "+to, e, want)
}

func (x *both) delete(t *testing.T, path string, want api.Errno) {
	t.Helper()
	e := x.b.Delete(path)
	answer(t, "Delete "+path, 0, e, 0, x.m.delete(path))
	told(t, "Delete "+path, e, want)
}

func (x *both) write(t *testing.T, path, s string, want api.Errno) {
	t.Helper()
	e := x.b.Write(path, s)
	answer(t, "Write "+path, 0, e, 0, x.m.write(path, s))
	told(t, "Write "+path, e, want)
}

func (x *both) share(t *testing.T, s api.Share, news bool, want api.Errno) {
	t.Helper()
	is, e := x.b.Share(s)
	has, f := x.m.share(s)
	answer(t, "Share", is, e, has, f)
	answer(t, "Share", is, e, news, want)
}

func (x *both) run(t *testing.T, most int) bool {
	t.Helper()
	c := x.d.Clone()
	_, want, f := mater.Run(c, x.m.image(), x.m.kept().bytes, most)
	is, e := x.b.Run(most)
	answer(t, "Run", is, e, want, f)
	if !reflect.DeepEqual(mater.Now(x.d), mater.Now(c)) || x.d.Changes() != c.Changes() {
		t.Fatalf("Run: %v, not %v", mater.Now(x.d), mater.Now(c))
	}
	return is
}

func (x *both) compact(t *testing.T) int {
	t.Helper()
	n, e := x.b.Compact()
	answer(t, "Compact", n, e, x.m.compact(), api.OK)
	return n
}
