package book_test

import (
	"arbour/api"
	"arbour/book"
	"slices"
	"strings"
	"testing"
)

// world is a book under calls that are drawn, and what others have for it.
type world struct {
	*both
	draw  func(int) int
	nodes []item
	texts []string
}

// path draws a path, of such as may not be, too.
func (w *world) path() string {
	l := []string{"a", "b", "d", "d/e", "d/a", "d/e/a", "e", "A", "d/b", "b~1", "A~1", "d/e/f/g", "d/", ""}
	if w.draw(3) > 0 {
		if now := w.names(); len(now) > 0 {
			return now[w.draw(len(now))]
		}
	}
	return l[w.draw(len(l))]
}

// op draws an operation of somebody else.
func (w *world) op() api.Op {
	thing := uint64(16)
	for x := range w.b.Tree().All() {
		if w.draw(3) == 0 || thing == 16 {
			thing = x.ID
		}
	}
	s := w.texts[w.draw(len(w.texts))]
	switch w.draw(6) {
	case 0:
		return folder("d")
	case 1:
		return file("ab"[:1+w.draw(2)])
	case 2:
		return api.Op{Kind: api.OpMove, Thing: thing, Name: "m"}
	case 3:
		return api.Op{Kind: api.OpDelete, Thing: thing}
	case 4:
		f, _ := cutAs(8, "text", "more")
		return content(thing, f, 8)
	}
	return content(thing, digest(s), len(s))
}

// others lets somebody else make a node, behind some of those that there are.
func (w *world) others() {
	var parents []item
	count := uint64(1)
	for i, h := range w.b.Dag().Heads() {
		if n, _ := w.b.Dag().Get(h); i < 3 && w.draw(2) == 0 {
			parents, count = append(parents, item{h: h}), max(count, n.Op.At.Count+1)
		}
	}
	for i, x := range w.nodes {
		if len(parents) < 4 && len(w.nodes)-i < 6 && w.draw(3) == 0 {
			parents, count = append(parents, x), count+2
		}
	}
	w.nodes = append(w.nodes, signed(w.draw(4), count+uint64(w.draw(3)), w.op(), unlike(parents)...))
}

// unlike is items without those that are there twice.
func unlike(l []item) []item {
	var own []item
	for _, x := range l {
		if !strings.Contains(strings.Join(hashes(own), ""), x.h) {
			own = append(own, x)
		}
	}
	return own
}

// hashes is the digests of items.
func hashes(l []item) []string {
	var all []string
	for _, x := range l {
		all = append(all, x.h)
	}
	return all
}

// some draws a share, forged ones among them.
func (w *world) some() api.Share {
	l := shares(w.texts[w.draw(len(w.texts))])
	if w.draw(6) == 0 {
		_, l = cutAs(8, "text", "more")
	}
	if len(l) == 0 {
		return api.Share{}
	}
	x := l[w.draw(len(l))]
	if w.draw(8) == 0 {
		x.Chunk = "forged"
	}
	return x
}

// call draws a call of a book, and of its model, and wants the same answer.
func (w *world) call(t *testing.T) {
	t.Helper()
	s := w.texts[w.draw(len(w.texts))]
	switch w.draw(12) {
	case 0, 1:
		path, dir := w.path(), w.draw(2) == 0
		told(t, "Create "+path, w.b.Create(path, dir), w.m.create(path, dir))
	case 2:
		from, to := w.path(), w.path()
		if w.draw(2) == 0 {
			to += "/x"
		}
		told(t, "Move "+from+" "+to, w.b.Move(from, to), w.m.move(from, to))
	case 3:
		path := w.path()
		told(t, "Delete "+path, w.b.Delete(path), w.m.delete(path))
	case 4, 5:
		path := w.path()
		told(t, "Write "+path, w.b.Write(path, s), w.m.write(path, s))
	case 6, 7:
		w.others()
		x := w.nodes[max(0, len(w.nodes)-1-w.draw(4))]
		n, e := w.b.Accept(x.s)
		k, f := w.m.accept(x.s)
		answer(t, "Accept", n, e, k, f)
	case 8, 9:
		x := w.some()
		is, e := w.b.Share(x)
		has, f := w.m.share(x)
		answer(t, "Share", is, e, has, f)
	case 10:
		w.run(t, w.draw(4))
	case 11:
		switch w.draw(4) {
		case 0:
			w.compact(t)
		case 1:
			w.fall(t)
		}
	}
}

// drawn is a world with a quota that some of its texts are beyond.
func drawn(t *testing.T, seed int) *world {
	t.Helper()
	w := &world{both: begun(t, keys(4), seed%4, 900), draw: drawer(uint64(seed))}
	w.texts = []string{"", "text", "more", text(1, 200), text(2, 300), text(1, 200) + text(2, 300), text(3, fileMost+1)[:300+w.draw(2)*7000], strings.Repeat("z", 700)}
	for _, s := range w.texts {
		w.asked = append(w.asked, digest(s))
	}
	return w
}

// All promises: whatever is called, a book answers what the chapter's words tell.
func TestDrawn(t *testing.T) {
	for seed := range 30 {
		w := drawn(t, seed)
		for range 60 {
			w.call(t)
			w.same(t)
		}
	}
}

// T4: wherever the power fails, all that was told is there when it stands up, and of what was being done nothing, or what a call keeps first.
func TestDrawnFalls(t *testing.T) {
	for seed := range 40 {
		w := drawn(t, seed)
		for range 20 {
			w.call(t)
		}
		for range 8 {
			var before []string
			w.d.Plan([]api.Fall{{At: w.d.Changes() + w.draw(4), Torn: 1}})
			for !w.b.Dead() {
				before = records(t, w.d)
				w.blind()
			}
			if w.b.Why() != api.ErrDead {
				t.Fatal(int(w.b.Why()))
			}
			w.d.Up()
			after := records(t, w.d)
			b, e := book.Open(w.d, w.m.ring, w.m.me, w.m.quota)
			told(t, "Open", e, api.OK)
			w.b, w.m = b, modelOf(w.m.ring, w.m.me, w.m.quota, after)
			w.same(t)
			if n := len(after) - len(before); n < 0 || n > 1 || !slices.Equal(after[:len(before)], before) {
				t.Errorf("%d records more than were told", n)
			}
		}
	}
}

// blind draws a call of the book alone that keeps something, or changes the folder.
func (w *world) blind() {
	s := w.texts[w.draw(len(w.texts))]
	switch w.draw(7) {
	case 0, 1:
		w.b.Create(w.path(), w.draw(2) == 0)
	case 2:
		w.b.Write(w.path(), s)
	case 3:
		w.b.Move(w.path(), w.path())
	case 4:
		w.others()
		w.b.Accept(w.nodes[len(w.nodes)-1].s)
	case 5:
		w.b.Share(w.some())
	case 6:
		w.b.Run(w.draw(3))
	}
}
