package dag_test

import (
	"arbour/api"
	"arbour/dag"
	"arbour/mac"
	"arbour/node"
	"slices"
	"strings"
	"testing"
)

const (
	keysMost    = 16
	parentsMost = 8
	waitMost    = 8 // of an author
)

// drawer draws the same numbers each time.
func drawer(seed uint64) func(n int) int {
	return func(n int) int {
		seed = seed*6364136223846793005 + 1442695040888963407
		return int(seed >> 33 % uint64(n))
	}
}

// item is a node with its digest and its bytes.
type item struct {
	n    api.Node
	h, s string
}

// keys is a ring of so many.
func keys(t *testing.T, n int) *mac.Ring {
	t.Helper()
	ring, e := mac.NewRing("s", n)
	if e != api.OK {
		t.Fatal(int(e))
	}
	return ring
}

// signed is an author's node at a count, about a thing, behind others that are told in any order.
func signed(t *testing.T, author int, count uint64, thing int, parents ...item) item {
	t.Helper()
	n := api.Node{Author: author, Op: api.Op{Kind: api.OpDelete, At: api.Stamp{Count: count, Who: author}, Thing: uint64(thing)}}
	for _, p := range parents {
		n.Parents = append(n.Parents, p.h)
	}
	slices.Sort(n.Parents)
	n, e := node.Sign(keys(t, keysMost), n)
	if e != api.OK {
		t.Fatalf("no node: %d", int(e))
	}
	s, e := node.Encode(n)
	if e != api.OK {
		t.Fatalf("no bytes: %d", int(e))
	}
	return item{n, node.Hash(n), s}
}

// digests is those of nodes.
func digests(items ...item) []string {
	var l []string
	for _, x := range items {
		l = append(l, x.h)
	}
	return l
}

// sorted is digests of nodes, rising.
func sorted(items ...item) []string {
	l := digests(items...)
	slices.Sort(l)
	return l
}

// model is nodes behind one another as the chapter tells it, without any haste: in two lists, all of it looked for anew whenever it is asked for.
type model struct {
	ring           *mac.Ring
	taken, waiting []item
}

// at is the place of a digest among nodes; below 0, if it is not there.
func at(l []item, h string) int {
	return slices.IndexFunc(l, func(x item) bool { return x.h == h })
}

// old tells whether a parent that is there has not a lesser count.
func (m *model) old(n api.Node) bool {
	return slices.ContainsFunc(n.Parents, func(h string) bool {
		i := at(m.taken, h)
		return i >= 0 && m.taken[i].n.Op.At.Count >= n.Op.At.Count
	})
}

// away tells whether a parent is not there.
func (m *model) away(n api.Node) bool {
	return slices.ContainsFunc(n.Parents, func(h string) bool { return at(m.taken, h) < 0 })
}

// of is how many of an author wait.
func (m *model) of(author int) int {
	n := 0
	for _, x := range m.waiting {
		if x.n.Author == author {
			n++
		}
	}
	return n
}

func (m *model) add(s string) ([]string, api.Errno) {
	n, e := node.Decode(s)
	if e != api.OK {
		return nil, e
	}
	x := item{n, node.Hash(n), s}
	switch {
	case !node.Good(m.ring, n):
		return nil, api.ErrTag
	case at(m.taken, x.h) >= 0 || at(m.waiting, x.h) >= 0:
		return nil, api.ErrKnown
	case m.old(n):
		return nil, api.ErrOld
	case m.away(n) && m.of(n.Author) == waitMost:
		return nil, api.ErrMany
	case m.away(n):
		m.waiting = append(m.waiting, x)
		return nil, api.ErrWait
	}
	from := len(m.taken)
	m.taken = append(m.taken, x)
	for before := 0; before < len(m.taken); {
		before = len(m.taken)
		m.round()
	}
	return digests(m.taken[from:]...), api.OK
}

// round goes over those that wait, in the order in which they came.
func (m *model) round() {
	for i := 0; i < len(m.waiting); {
		x := m.waiting[i]
		if !m.old(x.n) && m.away(x.n) {
			i++
			continue
		}
		if !m.old(x.n) {
			m.taken = append(m.taken, x)
		}
		m.waiting = slices.Delete(m.waiting, i, i+1)
	}
}

func (m *model) heads() []string {
	var l []string
	for _, x := range m.taken {
		if !slices.ContainsFunc(m.taken, func(y item) bool { return slices.Contains(y.n.Parents, x.h) }) {
			l = append(l, x.h)
		}
	}
	slices.Sort(l)
	return l
}

func (m *model) missing() []string {
	var l []string
	for _, x := range m.waiting {
		for _, h := range x.n.Parents {
			if at(m.taken, h) < 0 && at(m.waiting, h) < 0 && !slices.Contains(l, h) {
				l = append(l, h)
			}
		}
	}
	slices.Sort(l)
	return l
}

func (m *model) greatest() uint64 {
	var count uint64
	for _, x := range m.taken {
		count = max(count, x.n.Op.At.Count)
	}
	return count
}

func (m *model) drop() int {
	n := len(m.waiting)
	m.waiting = nil
	return n
}

// twin is nodes beside their model.
type twin struct {
	d    *dag.Dag
	m    *model
	seen []item // all that ever came
}

// twins is two without nodes, with so many keys.
func twins(t *testing.T, n int) *twin {
	t.Helper()
	ring := keys(t, n)
	d, e := dag.New(ring)
	if d == nil || e != api.OK {
		t.Fatalf("New: %d", int(e))
	}
	w := &twin{d: d, m: &model{ring: keys(t, n)}}
	w.told(t)
	return w
}

// told wants that all that can be asked for is as it should be, twice: what was told is the caller's, and is changed by him.
func (w *twin) told(t *testing.T) {
	t.Helper()
	for range 2 {
		if w.d.Len() != len(w.m.taken) || w.d.Waits() != len(w.m.waiting) || w.d.Greatest() != w.m.greatest() {
			t.Fatalf("%d nodes, %d wait, count %d; not %d, %d, %d", w.d.Len(), w.d.Waits(), w.d.Greatest(), len(w.m.taken), len(w.m.waiting), w.m.greatest())
		}
		same(t, "Order", w.d.Order(), digests(w.m.taken...))
		same(t, "Heads", w.d.Heads(), w.m.heads())
		same(t, "Missing", w.d.Missing(), w.m.missing())
	}
}

// same wants digests, and spoils the list that was told.
func same(t *testing.T, what string, got, want []string) {
	t.Helper()
	if !slices.Equal(got, want) {
		t.Fatalf("%s: %x, not %x", what, got, want)
	}
	for i := range got {
		got[i] = "spoilt"
	}
	_ = append(got, "more")
}

// nodes wants each node that ever came to be there, or not to be.
func (w *twin) nodes(t *testing.T) {
	t.Helper()
	for range 2 {
		for _, x := range w.seen {
			want := at(w.m.taken, x.h) >= 0
			n, ok := w.d.Get(x.h)
			if ok != want || w.d.Has(x.h) != want {
				t.Fatalf("%x: %t, %t; not %t", x.h, ok, w.d.Has(x.h), want)
			}
			if want && !node.Same(n, x.n) || !want && !node.Same(n, api.Node{}) {
				t.Fatalf("%x: another node, behind %x", x.h, n.Parents)
			}
			for i := range n.Parents {
				n.Parents[i] = "spoilt"
			}
			_ = append(n.Parents, "more")
		}
	}
}

// add wants an error of bytes, and what the model tells.
func (w *twin) add(t *testing.T, s string, want api.Errno) {
	t.Helper()
	l, e := w.m.add(s)
	if e != want {
		t.Fatalf("the model tells %d, not %d", int(e), int(want))
	}
	got, e := w.d.Add(s)
	if e != want {
		t.Fatalf("Add: %d, not %d", int(e), int(want))
	}
	same(t, "Add", got, l)
	w.told(t)
}

// come wants an error of a node.
func (w *twin) come(t *testing.T, x item, want api.Errno) {
	t.Helper()
	w.seen = append(w.seen, x)
	w.add(t, x.s, want)
	w.nodes(t)
}

// all wants that a node that comes lets just these be taken, in order.
func (w *twin) all(t *testing.T, x item, want ...item) {
	t.Helper()
	from := len(w.m.taken)
	w.come(t, x, api.OK)
	same(t, "Order behind Add", w.d.Order()[from:], digests(want...))
}

// drop wants so many to go.
func (w *twin) drop(t *testing.T, want int) {
	t.Helper()
	if n := w.m.drop(); n != want {
		t.Fatalf("the model drops %d, not %d", n, want)
	}
	if n := w.d.Drop(); n != want {
		t.Fatalf("Drop: %d, not %d", n, want)
	}
	w.told(t)
	w.nodes(t)
}

// drawnItems is nodes behind others that stand ahead of them in the list; some counts are not behind those of all parents.
func drawnItems(t *testing.T, draw func(int) int, n int, author func(i int) int) []item {
	t.Helper()
	var l []item
	for i := range n {
		var parents []item
		for range draw(5) {
			p := l[max(0, i-1-draw(12)):]
			if len(p) > 0 && at(parents, p[0].h) < 0 {
				parents = append(parents, p[0])
			}
		}
		count := uint64(1 + draw(3))
		for _, p := range parents {
			if draw(20) > 0 {
				count = max(count, p.n.Op.At.Count+uint64(1+draw(2)))
			}
		}
		l = append(l, signed(t, author(i), count, 100+i, parents...))
	}
	return l
}

// spoilt is a node's bytes with another byte somewhere, or fewer, or more.
func spoilt(draw func(int) int, x item) string {
	i := draw(len(x.s))
	switch draw(4) {
	case 0:
		return x.s[:i]
	case 1:
		return x.s + strings.Repeat("0", 1+draw(3))
	}
	return x.s[:i] + string([]byte{x.s[i] ^ byte(1+draw(255))}) + x.s[i+1:]
}

// 12.1, 12.2: nodes that come in any order, over and over, spoilt ones among them, and all that wait going at times.
func TestWalks(t *testing.T) {
	tally := make(map[api.Errno]int)
	for seed := range 120 {
		draw := drawer(uint64(seed) + 1)
		authors := 1 + draw(1+draw(keysMost))
		pool := drawnItems(t, draw, 20+draw(40), func(int) int { return draw(authors) })
		w := twins(t, max(1, authors-draw(2)))
		w.seen = pool
		for range 160 {
			x := pool[draw(len(pool))]
			s := x.s
			if draw(20) == 0 {
				s = spoilt(draw, x)
			}
			before := []any{w.d.Order(), w.d.Heads(), w.d.Missing(), w.d.Waits(), w.d.Greatest()}
			m := *w.m
			m.taken, m.waiting = slices.Clone(m.taken), slices.Clone(m.waiting)
			_, want := m.add(s)
			tally[want]++
			w.add(t, s, want)
			if want != api.OK && want != api.ErrWait {
				unchanged(t, w.d, before)
			}
			if draw(60) == 0 {
				w.drop(t, len(w.m.waiting))
			}
		}
		w.nodes(t)
	}
	for _, e := range []api.Errno{api.OK, api.ErrTag, api.ErrKnown, api.ErrOld, api.ErrWait, api.ErrMany, api.ErrCut, api.ErrMore, api.ErrForm} {
		if tally[e] < 10 {
			t.Errorf("error %d came %d times", int(e), tally[e])
		}
	}
}

// unchanged wants that what is told is what it was.
func unchanged(t *testing.T, d *dag.Dag, before []any) {
	t.Helper()
	for i, l := range [][]string{d.Order(), d.Heads(), d.Missing()} {
		if !slices.Equal(l, before[i].([]string)) {
			t.Fatalf("list %d was changed", i)
		}
	}
	if d.Waits() != before[3].(int) || d.Greatest() != before[4].(uint64) {
		t.Fatal("a number was changed")
	}
}

// R4: the same calls in the same order answer the same.
func TestSameAgain(t *testing.T) {
	for seed := range 6 {
		pool := drawnItems(t, drawer(uint64(seed)+77), 60, func(i int) int { return i % 5 })
		var first []string
		for turn := range 4 {
			d, _ := dag.New(keys(t, keysMost))
			var all []string
			draw := drawer(uint64(seed))
			for range 200 {
				l, _ := d.Add(pool[draw(len(pool))].s)
				all = slices.Concat(all, l, []string{"|"}, d.Heads(), d.Missing(), d.Order())
			}
			if turn > 0 && !slices.Equal(all, first) {
				t.Fatalf("seed %d: other answers", seed)
			}
			first = all
		}
	}
}
