package book_test

import (
	"arbour/api"
	"arbour/book"
	"arbour/dag"
	"arbour/disk"
	"arbour/mater"
	"arbour/move"
	"arbour/store"
	"math"
	"slices"
	"strconv"
	"testing"
)

// stood is the paths that stand in a disk's folder.
func stood(d *disk.Disk) []string {
	var l []string
	for _, f := range mater.Now(d) {
		l = append(l, f.Path)
	}
	return l
}

// 18.4: so many steps towards its image, and whether it stands so.
func TestRun(t *testing.T) {
	x := paths(t)
	x.write(t, "d/e/f", text(1, 900), api.OK)
	for _, most := range []int{0, -1, math.MinInt} {
		if x.run(t, most) || len(stood(x.d)) != 0 || x.b.Status().Done {
			t.Errorf("%d steps", most)
		}
	}
	for i := range 4 {
		if x.run(t, 1) != (i == 3) || len(stood(x.d)) != i+1 || x.b.Status().Done != (i == 3) {
			t.Errorf("%d steps: %q", i+1, stood(x.d))
		}
		x.same(t)
	}
	for _, most := range []int{0, -1, math.MinInt, 1, math.MaxInt} {
		if !x.run(t, most) {
			t.Errorf("%d steps", most)
		}
	}
	s, e := mater.Read(x.d, "d/e/f")
	answer(t, "Read", s, e, text(1, 900), api.OK)
	x.move(t, "d/e", "g", api.OK)
	x.delete(t, "a", api.OK)
	x.create(t, "a", true, api.OK)
	if x.b.Status().Done || x.run(t, 3) || !x.run(t, math.MaxInt) || !slices.Equal(stood(x.d), []string{"a", "d", "g", "g/f"}) {
		t.Errorf("%q", stood(x.d))
	}
	x.same(t)
	// What somebody else did is undone.
	told(t, "Edit", mater.Edit(x.d, "g/f", "other"), api.OK)
	told(t, "Edit", mater.Edit(x.d, "new", "other"), api.OK)
	if x.b.Status().Done || !x.run(t, 2) || !slices.Equal(stood(x.d), []string{"a", "d", "g", "g/f"}) {
		t.Errorf("%q", stood(x.d))
	}
}

// 18.4: a file whose bytes are not there is passed over: it stands without it, till they come.
func TestRunLacks(t *testing.T) {
	x := begun(t, keys(4), 0, quota)
	s := text(1, 500)
	x.wants(t, "a", digest(s), len(s))
	x.create(t, "b", false, api.OK)
	if !x.run(t, 9) || !x.b.Status().Done || !slices.Equal(stood(x.d), []string{"b"}) {
		t.Errorf("%q", stood(x.d))
	}
	for _, z := range shares(s) {
		if !x.b.Status().Done {
			t.Error("it does not stand")
		}
		x.share(t, z, true, api.OK)
	}
	if x.b.Status().Done || x.run(t, 0) || !x.run(t, 1) || !slices.Equal(stood(x.d), []string{"a", "b"}) {
		t.Errorf("%q", stood(x.d))
	}
	x.same(t)
}

// 18.4, T4: the power fails at each change on the way: all that was told is there, and the folder is on its way.
func TestRunFalls(t *testing.T) {
	for at := 0; ; at++ {
		x := paths(t)
		x.write(t, "a", "text", api.OK)
		x.run(t, 9)
		x.move(t, "d/e", "e", api.OK)
		x.write(t, "a", "other", api.OK)
		x.d.Plan([]api.Fall{{At: x.d.Changes() + at, Torn: 1}})
		if is, e := x.b.Run(9); e == api.OK {
			if !is || at != 7 {
				t.Errorf("%v, %d changes", is, at)
			}
			return
		}
		x.fall(t)
		x.same(t)
		if x.b.Status().Done || !x.run(t, 9) || !slices.Equal(stood(x.d), []string{"a", "d", "e", "e/f"}) {
			t.Errorf("%d: %q", at, stood(x.d))
		}
	}
}

// much is a book with what is used, and with what nothing uses: files that are not wanted, in part or whole, and shares of such as are not whole.
func much(t *testing.T) *both {
	t.Helper()
	x := begun(t, keys(4), 0, quota)
	x.create(t, "d", true, api.OK)
	for i := range 5 {
		name := "d/" + strconv.Itoa(i)
		x.create(t, name, false, api.OK)
		x.write(t, name, text(i, 400), api.OK)
	}
	x.write(t, "d/0", "", api.OK)
	// Of the bytes that nothing wants any more some are those of a file that is wanted.
	x.write(t, "d/1", text(1, 400)+text(7, 300), api.OK)
	x.delete(t, "d/2", api.OK)
	x.write(t, "d/3", text(4, 400), api.OK)
	for i := 10; i < 14; i++ {
		s := text(i, 600)
		x.wants(t, "w"+strconv.Itoa(i), digest(s), 600)
		for at, z := range shares(s) {
			if i < 12 || at != 1 {
				x.share(t, z, true, api.OK)
			}
		}
	}
	x.write(t, "w10", "text", api.OK)
	f, all := cutAs(8, "text", "more")
	x.wants(t, "lie", f, 8)
	for _, z := range all {
		x.share(t, z, true, api.OK)
	}
	for i := range 14 {
		x.asked = append(x.asked, digest(text(i, 400)))
	}
	x.same(t)
	return x
}

// 18.4: what nothing uses goes, here and on the disk, and all else stays: the records are all nodes, in their order, and then the wanted files that are there whole.
func TestCompact(t *testing.T) {
	x := much(t)
	before := seen(x.b, nil)
	n := x.compact(t)
	x.same(t)
	l := records(t, x.d)
	nodes := x.b.Status().Nodes
	if n != len(l) || n != nodes+6 {
		t.Fatalf("%d records, %d told, %d nodes", len(l), n, nodes)
	}
	for i, h := range x.b.Dag().Order() {
		if a, _ := x.b.Dag().Get(h); l[i] != "N"+encoded(a) {
			t.Errorf("record %d", i)
		}
	}
	var files []string
	for _, r := range l[nodes:] {
		if r[0] != 'F' {
			t.Errorf("%q", r)
		}
		files = append(files, digest(r[1:]))
	}
	want := []string{digest(""), digest(text(1, 400) + text(7, 300)), digest(text(2, 400)), digest(text(4, 400)), digest("text"), digest(text(11, 600))}
	slices.Sort(want)
	if !slices.Equal(files, want) {
		t.Errorf("%q, not %q", files, want)
	}
	after := seen(x.b, nil)
	if after.Used >= before.Used || len(after.Chunks) >= len(before.Chunks) {
		t.Errorf("%d bytes, %d before", after.Used, before.Used)
	}
	after.Used, after.Chunks, after.Files = before.Used, before.Chunks, before.Files
	alike(t, after, before)
	for _, s := range []int{12, 13} {
		if x.b.Next(digest(text(s, 600))) != 0 {
			t.Error("shares of a file that is not whole")
		}
		for _, z := range shares(text(s, 600)) {
			x.share(t, z, true, api.OK)
			x.same(t)
		}
	}
	x.fall(t)
	if m := x.compact(t); m != n+2 {
		t.Errorf("%d records", m)
	}
	if m := x.compact(t); m != n+2 {
		t.Errorf("%d records", m)
	}
	x.same(t)
}

// 18.4: nothing, and what waits.
func TestCompactLittle(t *testing.T) {
	x := begun(t, keys(4), 0, quota)
	if x.compact(t) != 0 {
		t.Error("records of nothing")
	}
	x.same(t)
	a := signed(1, 1, folder("a"))
	b := signed(1, 2, folder("b"), a)
	x.accept(t, b.s, api.ErrWait)
	if x.compact(t) != 0 || x.b.Status().Waits != 1 {
		t.Errorf("%v", x.b.Status())
	}
	x.same(t)
	if x.accept(t, a.s, api.OK) != 2 || x.compact(t) != 2 {
		t.Error("two nodes")
	}
	x.same(t)
}

// 18.4: bytes that nothing wants any more make room again.
func TestCompactQuota(t *testing.T) {
	x := begun(t, keys(4), 0, 1000)
	x.create(t, "a", false, api.OK)
	x.write(t, "a", text(1, 900), api.OK)
	x.write(t, "a", text(2, 900), api.ErrQuota)
	x.write(t, "a", "", api.OK)
	x.write(t, "a", text(2, 900), api.ErrQuota)
	x.compact(t)
	x.write(t, "a", text(2, 900), api.OK)
	x.same(t)
}

// 18.4, T4: the power fails at each change on the way: what was there is there, or what was laid.
func TestCompactFalls(t *testing.T) {
	for at := 0; ; at++ {
		x := much(t)
		before := *x.m
		before.log = slices.Clone(x.m.log)
		x.d.Plan([]api.Fall{{At: x.d.Changes() + at, Torn: 1}})
		n, e := x.b.Compact()
		if e == api.OK {
			if at < 3 || n != x.m.compact() {
				t.Errorf("%d records, %d changes", n, at)
			}
			return
		}
		answer(t, "Compact", n, e, 0, api.ErrDead)
		if !x.b.Dead() || x.b.Why() != api.ErrDead {
			t.Errorf("%v, %d", x.b.Dead(), int(x.b.Why()))
		}
		x.d.Up()
		if x.m.compact(); at < 2 {
			x.m = &before
		}
		x.fall(t)
		x.same(t)
		x.create(t, "new", false, api.OK)
		x.compact(t)
		x.same(t)
	}
}

// 18.4: each number of the status.
func TestStatus(t *testing.T) {
	x := begun(t, keys(4), 0, quota)
	is := func(want api.Status) {
		t.Helper()
		if s := x.b.Status(); s != want {
			t.Errorf("%+v, not %+v", s, want)
		}
	}
	is(api.Status{Done: true})
	x.create(t, "a", false, api.OK)
	is(api.Status{Nodes: 1, Count: 1})
	x.run(t, 1)
	is(api.Status{Nodes: 1, Count: 1, Done: true})
	none := item{h: digest("none")}
	x.accept(t, signed(1, 50, file("b"), none).s, api.ErrWait)
	x.accept(t, signed(2, 60, file("b"), none).s, api.ErrWait)
	is(api.Status{Nodes: 1, Waits: 2, Count: 1, Done: true})
	x.accept(t, signed(1, 40, content(16, digest("b"), 1)).s, api.OK)
	is(api.Status{Nodes: 2, Waits: 2, Lacks: 1, Count: 40, Done: true})
	x.accept(t, signed(2, 30, folder("c")).s, api.OK)
	is(api.Status{Nodes: 3, Waits: 2, Lacks: 1, Count: 40})
	x.create(t, "d", true, api.OK)
	is(api.Status{Nodes: 4, Waits: 2, Lacks: 1, Count: 41})
	x.run(t, 9)
	is(api.Status{Nodes: 4, Waits: 2, Lacks: 1, Count: 41, Done: true})
	x.share(t, shares("b")[0], true, api.OK)
	is(api.Status{Nodes: 4, Waits: 2, Count: 41})
	x.fall(t)
	is(api.Status{Nodes: 4, Count: 41})
	x.d.Crash(0, 0)
	is(api.Status{Nodes: 4, Count: 41})
}

// 18.4: a nil book, each function; and one that was never opened ends and does not panic.
func TestNil(t *testing.T) {
	node := signed(1, 1, file("a")).s
	share := shares("text")[0]
	for _, b := range []*book.Book{nil, {}} {
		errors := []api.Errno{b.Create("a", true), b.Create("", false), b.Move("a", "b"), b.Delete("a"), b.Write("a", "text")}
		n, e := b.Accept(node)
		errors = append(errors, e)
		s, e := b.Read("a")
		errors = append(errors, e)
		told, e := b.Share(share)
		errors = append(errors, e)
		run, e := b.Run(9)
		errors = append(errors, e)
		many, e := b.Compact()
		errors = append(errors, e)
		if n != 0 || s != "" || told || run || many != 0 {
			t.Errorf("%d, %q, %v, %v, %d", n, s, told, run, many)
		}
		if len(b.Image())+len(b.Lacks())+len(b.Shares("a", 0, 9))+len(b.Shares("", 0, 9)) != 0 || b.Next("a") != 0 || b.Next("") != 0 || b.Status() != (api.Status{}) {
			t.Error("something is there")
		}
		if b != nil {
			continue
		}
		for i, e := range errors {
			if e != api.ErrDead {
				t.Errorf("call %d: %d", i, int(e))
			}
		}
		for _, f := range []string{"", digest(""), digest("text")} {
			if s, is := b.Bytes(f); s != "" || is {
				t.Errorf("%q, %v", s, is)
			}
		}
		if !b.Dead() || b.Why() != api.ErrArg || b.Dag() != nil || b.Tree() != nil || b.Store() != nil {
			t.Error("what a nil book has")
		}
	}
}

// 18.4: Dag, Tree and Store are the book's own: what is dropped there is gone here.
func TestParts(t *testing.T) {
	x := begun(t, keys(4), 0, quota)
	var g *dag.Dag = x.b.Dag()
	var tree *move.Tree = x.b.Tree()
	var s *store.Store = x.b.Store()
	a := signed(1, 1, folder("a"))
	b := signed(1, 2, folder("b"), a)
	x.accept(t, b.s, api.ErrWait)
	if g.Drop() != 1 || x.b.Status().Waits != 0 {
		t.Errorf("%v", x.b.Status())
	}
	x.m.dag.Drop()
	x.accept(t, a.s, api.OK)
	x.create(t, "c", false, api.OK)
	x.write(t, "c", "text", api.OK)
	if !g.Has(a.h) || g.Len() != 3 || tree.Len() != 3 || len(tree.Kids(api.Root)) != 2 || s.Used() != 4 {
		t.Errorf("%d, %d, %d", g.Len(), tree.Len(), s.Used())
	}
	// Whatever somebody does to them, nothing panics.
	y := text(1, 900)
	x.wants(t, "w", digest(y), len(y))
	all := shares(y)
	for _, z := range all[:len(all)-1] {
		x.share(t, z, true, api.OK)
	}
	s.Collect()
	if n := x.b.Next(digest(y)); n != 0 {
		t.Errorf("%d", n)
	}
	for i, z := range all {
		if n := x.b.Next(digest(y)); n != i {
			t.Errorf("%d, not %d", n, i)
		}
		if is, e := x.b.Share(z); !is || e != api.OK {
			t.Errorf("%v, %d", is, int(e))
		}
	}
	if got, e := x.b.Read("w"); got != y || e != api.OK {
		t.Errorf("%d", int(e))
	}
	// Of a file that is forgotten there nothing is known, however it came.
	other := text(2, 900)
	x.wants(t, "v", digest(other), len(other))
	x.share(t, shares(other)[0], true, api.OK)
	x.write(t, "c", other, api.OK)
	for _, text := range []string{y, other} {
		f := digest(text)
		if !s.Forget(f) || x.b.Next(f) != 0 {
			t.Errorf("%d", x.b.Next(f))
		}
		if _, is, e := s.Put(shares(text)[0].Chunk); !is || e != api.OK || x.b.Next(f) != 0 {
			t.Errorf("%v, %d, %d", is, int(e), x.b.Next(f))
		}
	}
}
